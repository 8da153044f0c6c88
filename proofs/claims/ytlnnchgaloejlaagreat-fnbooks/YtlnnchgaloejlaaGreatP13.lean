/-
  Texts joined: BookN, CopyB, CopyC, DoneB.
-/
import Derived.Test.YtlnnchgaloejlaaGreatP3
import Derived.Test.YtlnnchgaloejlaaGreatP4
import Derived.Test.YtlnnchgaloejlaaGreatP8
import Derived.Test.YtlnnchgaloejlaaGreatP10
import Derived.Test.YtlnnchgaloejlaaGreatP11
import Derived.Test.YtlnnchgaloejlaaGreatP12
import Derived.Laws.AppendOwnNone
namespace Go.Proofs.YtlnnchgaloejlaaGreat
open Go.ChangeShapes Go.WideShapes Go.ChangeAt Go.RowKit

/-- Is there a new book of them? -/
def newB (ps : List Pur) : Bool := inB 0 1000000 (freeInV ps)
def bok0 : Bok := ⟨0, 0, 0, 0, [], [], [], []⟩
/-- The new book. -/
def bokOf (ps : List Pur) (v : Int) : Bok := ⟨0, v, 0, 0, ps, [], [], []⟩
def newL (ps : List Pur) : Bok := if newB ps = true then bokOf ps (freeInV ps) else bok0
theorem newL_yes {ps : List Pur} (h : newB ps = true) : newL ps = bokOf ps (freeInV ps) := by simp [newL, h]
theorem newL_no {ps : List Pur} (h : newB ps = false) : newL ps = bok0 := by simp [newL, h]
theorem rises_nil : risesB [] = true := by decide
theorem mills_nil : millsB [] = true := mills_yes (by simp) (MRight.zero _) rises_nil
theorem parts_nil : partsB [] = true := parts_yes (by simp) (PUp.zero _)
theorem waits_nil : waitsB [] = true := waits_yes (by simp) (WUp.zero _)
theorem new_book (ps : List Pur) : bookB (bokOf ps (freeInV ps)) = newB ps := by
  cases hf : folkB ps
  · rw [book_l (lists_f (b := bokOf ps (freeInV ps)) hf)]
    have h1 : freeInV ps = -1 := by simp [freeInV, hf]
    rw [newB, h1]; decide
  · have h1 : freeInV ps = sumP ps ps.length := by simp [freeInV, hf]
    cases hn : newB ps
    · exact book_l (lists_u (b := bokOf ps (freeInV ps)) hn)
    · refine book_yes (lists_yes (b := bokOf ps (freeInV ps)) hf mills_nil parts_nil waits_nil (show inB 0 1000 0 = true by decide) hn (show inB 0 1000000 0 = true by decide) (show inB 0 1000000 0 = true by decide)) (there_yes (KnowsP.zero _) (KnowsW.zero _) (HeldM.zero _)) ?_
      simp [totalV, bokOf, h1, sumM, sumA]
theorem ownB_nil (w : World) (B : Nat) (s : Spots) (hr : Roots bok0 s) : OwnB w B bok0 s :=
  ⟨⟨Lies.nil _ _, .inl rfl⟩, ⟨Lies.nil _ _, .inl rfl⟩, ⟨Lies.nil _ _, .inl rfl⟩, ⟨Lies.nil _ _, .inl rfl⟩, ApartN.none1, ApartN.none1, ApartN.none1, ApartN.none1, ApartN.none1, ApartN.none1, hr⟩
theorem ownB_folk {w : World} {B : Nat} {ps : List Pur} {v : Int} {s : Spots} (h : OwnP w B s.fa ps) (hr : Roots (bokOf ps v) s) : OwnB w B (bokOf ps v) s :=
  ⟨h, ⟨Lies.nil _ _, .inl rfl⟩, ⟨Lies.nil _ _, .inl rfl⟩, ⟨Lies.nil _ _, .inl rfl⟩, ApartN.none2, ApartN.none2, ApartN.none2, ApartN.none1, ApartN.none1, ApartN.none1, hr⟩
theorem bookAt_folk {w : World} {ps : List Pur} {v : Int} {s : Spots} (h : Purs w s.fa ps) : BookAt w (bokOf ps v) s := ⟨h, Lies.nil _ _, Lies.nil _ _, Lies.nil _ _⟩
theorem bokOf_len {ps : List Pur} (v : Int) (h : ps.length ≤ 1048576) : BLen (bokOf ps v) := ⟨h, Nat.zero_le _, Nat.zero_le _, Nat.zero_le _⟩
theorem bokOf_sized {ps : List Pur} (v : Int) (h : Sized (pnames ps)) : BSized (bokOf ps v) :=
  ⟨h, fun k => by simp [bokOf, mnames, sat], fun k hk => by simp [bokOf] at hk, fun k hk => by simp [bokOf] at hk⟩
/-- A new book comes back, or an empty one, and a word. -/
def NewRes (nb : Bok) (ok : Bool) (w : World) (e : Ending) (w' : World) : Prop :=
  ∃ s : Spots, e = .returned (.tuple #[.agg #[.int .i64 nb.season, .int .i64 nb.supply, .int .i64 nb.burnt, .int .i64 nb.pot, .slice s.fa nb.folk.length s.fc, .slice s.ma nb.mills.length s.mc, .slice s.pa nb.parts.length s.pc, .slice s.wa nb.waits.length s.wc], .bool ok]) ∧ OwnB w' w.heap.size nb s ∧ Below w.heap.size w w'

set_option maxHeartbeats 4000000 in
set_option maxRecDepth 100000 in
theorem iNewBook_any {w : World} {a : Option Addr} {ps : List Pur} (cap : Nat) (h : Purs w a ps) (hl : ps.length ≤ 1048576) (hs : Sized (pnames ps)) :
    Calls Tryz.prog 7 #[.slice a ps.length cap] w (NewRes (newL ps) (newB ps) w) := by
  obtain ⟨W, hW⟩ : ∃ W, w.alloc (.cells #[.int .i64 0, .int .i64 0, .int .i64 0, .int .i64 0, .slice none 0 0, .slice none 0 0, .slice none 0 0, .slice none 0 0] 29) = W := ⟨_, rfl⟩
  have R0 := Lib.hid (OutV.new w [.int .i64 0, .int .i64 0, .int .i64 0, .int .i64 0, .slice none 0 0, .slice none 0 0, .slice none 0 0, .slice none 0 0] 29)
  have B0 := Lib.hid (below_new w (.cells #[.int .i64 0, .int .i64 0, .int .i64 0, .int .i64 0, .slice none 0 0, .slice none 0 0, .slice none 0 0, .slice none 0 0] 29))
  rw [show w.alloc (.cells ([.int .i64 0, .int .i64 0, .int .i64 0, .int .i64 0, .slice none 0 0, .slice none 0 0, .slice none 0 0, .slice none 0 0] : List Value).toArray 29) = W from hW] at R0
  rw [hW] at B0
  have H := Lib.hid (h.below B0.out)
  have HS := Lib.hid hs
  have HB : Hid (newB ps = inB 0 1000000 (freeInV ps)) := rfl
  clear h hs
  go_enter Tryz.func7, Tryz.ntmps7
  go_wp2_with fail
  refine (iFreeIn_any _ H.out hl HS.out).mono ?_
  rintro e w1 ⟨rfl, hb1⟩
  have R1 := Lib.hid (R0.out.below hb1)
  have B1 := Lib.hid (below_trans B0.out hb1)
  have H1 := Lib.hid (H.out.below hb1)
  clear hb1 R0 B0 H
  have r0 := R1.out.has 0 _ rfl
  have r1 := R1.out.has 1 _ rfl
  have r2 := R1.out.has 2 _ rfl
  have r3 := R1.out.has 3 _ rfl
  have r4 := R1.out.has 4 _ rfl
  have r5 := R1.out.has 5 _ rfl
  have r6 := R1.out.has 6 _ rfl
  have r7 := R1.out.has 7 _ rfl
  have rf := R1.out.free
  have rlt := R1.out.lt
  obtain ⟨fv, hfv⟩ : ∃ v, freeInV ps = v := ⟨_, rfl⟩
  rw [hfv] at HB
  have HV := Lib.hid hfv
  rw [hfv]
  clear hfv
  go_wp2_with fail
  refine (iAmountOk_any _ _).mono ?_
  rintro e w2 ⟨rfl, rfl⟩
  cases hn : inB 0 1000000 fv
  · have HN := Lib.hid (show NewRes (newL ps) (newB ps) w (.returned (.tuple #[.agg #[.int .i64 0, .int .i64 0, .int .i64 0, .int .i64 0, .slice none 0 0, .slice none 0 0, .slice none 0 0, .slice none 0 0], .bool false])) ((((((((w1.setCell ⟨w.heap.size, 0, none⟩ (.int .i64 0)).setCell ⟨w.heap.size, 1, none⟩ (.int .i64 0)).setCell ⟨w.heap.size, 2, none⟩ (.int .i64 0)).setCell ⟨w.heap.size, 3, none⟩ (.int .i64 0)).setCell ⟨w.heap.size, 4, none⟩ (.slice none 0 0)).setCell ⟨w.heap.size, 5, none⟩ (.slice none 0 0)).setCell ⟨w.heap.size, 6, none⟩ (.slice none 0 0)).setCell ⟨w.heap.size, 7, none⟩ (.slice none 0 0)) from by
      rw [newL_no (HB.out.trans hn), HB.out, hn]
      exact ⟨⟨none, 0, none, 0, none, 0, none, 0⟩, rfl, ownB_nil _ _ _ ⟨.inl ⟨rfl, rfl⟩, .inl ⟨rfl, rfl⟩, .inl ⟨rfl, rfl⟩, .inl ⟨rfl, rfl⟩, Nat.le_refl _, Nat.le_refl _, Nat.le_refl _, Nat.le_refl _⟩, (Below.setCell (Below.setCell (Below.setCell (Below.setCell (Below.setCell (Below.setCell (Below.setCell (Below.setCell B1.out (p := ⟨w.heap.size, 0, none⟩) (Nat.le_refl _) (.int .i64 0)) (p := ⟨w.heap.size, 1, none⟩) (Nat.le_refl _) (.int .i64 0)) (p := ⟨w.heap.size, 2, none⟩) (Nat.le_refl _) (.int .i64 0)) (p := ⟨w.heap.size, 3, none⟩) (Nat.le_refl _) (.int .i64 0)) (p := ⟨w.heap.size, 4, none⟩) (Nat.le_refl _) (.slice none 0 0)) (p := ⟨w.heap.size, 5, none⟩) (Nat.le_refl _) (.slice none 0 0)) (p := ⟨w.heap.size, 6, none⟩) (Nat.le_refl _) (.slice none 0 0)) (p := ⟨w.heap.size, 7, none⟩) (Nat.le_refl _) (.slice none 0 0))⟩)
    go_wp2
    exact bodyPost_ret (v := .tuple #[.agg #[.int .i64 0, .int .i64 0, .int .i64 0, .int .i64 0, .slice none 0 0, .slice none 0 0, .slice none 0 0, .slice none 0 0], .bool false]) (by simp [results, Tryz.results7, go_sem, r0, r1, r2, r3, r4, r5, r6, r7]) rfl HN.out
  have hrun := copied_any cap H1.out hl
  go_wp2_with fail
  refine hrun.mono ?_
  rintro e w2 ⟨rfl, hw2⟩
  have hb2 : Below w1.heap.size w1 w2 := by rw [hw2]; exact below_new _ _
  have hpl : Purs w2 (some ⟨w1.heap.size, 0, none⟩) ps := by rw [hw2]; exact lies_new w1 (pcells ps) 41
  have hfr : ∀ o, w2.frozen? ⟨w1.heap.size, o, none⟩ = false := by rw [hw2]; exact free_new _ _ _
  have hlt2 : w1.heap.size < w2.heap.size := by rw [hw2]; simp
  have OP := Lib.hid (show OwnP w2 (w.heap.size + 1) (some ⟨w1.heap.size, 0, none⟩) ps from ⟨hpl, .inr ⟨_, rfl, rlt, hlt2, mine_of_lies hpl (pcells_length ps) hfr⟩⟩)
  have R2 := Lib.hid (R1.out.below hb2)
  have B2 := Lib.hid (below_trans B1.out hb2)
  clear hw2 hb2 hpl hfr R1 B1 r0 r1 r2 r3 r4 r5 r6 r7 rf hrun
  have r0 := R2.out.has 0 _ rfl
  have r1 := R2.out.has 1 _ rfl
  have r2 := R2.out.has 2 _ rfl
  have r3 := R2.out.has 3 _ rfl
  have r4 := R2.out.has 4 _ rfl
  have r5 := R2.out.has 5 _ rfl
  have r6 := R2.out.has 6 _ rfl
  have r7 := R2.out.has 7 _ rfl
  have rf := R2.out.free
  have G := (gset (o := 7) (gset (o := 6) (gset (o := 5) (gset (o := 4) (gset (o := 3) (gset (o := 2) (gset (o := 1) (gset (o := 0) (gid w2 (some w.heap.size)) (.int .i64 0)) (.int .i64 fv)) (.int .i64 0)) (.int .i64 0)) (.slice (some ⟨w1.heap.size, 0, none⟩) ps.length ps.length)) (.slice none 0 0)) (.slice none 0 0)) (.slice none 0 0))
  have HN := Lib.hid (show NewRes (newL ps) (newB ps) w (.returned (.tuple #[.agg #[.int .i64 0, .int .i64 fv, .int .i64 0, .int .i64 0, .slice (some ⟨w1.heap.size, 0, none⟩) ps.length ps.length, .slice none 0 0, .slice none 0 0, .slice none 0 0], .bool true])) ((((((((w2.setCell ⟨w.heap.size, 0, none⟩ (.int .i64 0)).setCell ⟨w.heap.size, 1, none⟩ (.int .i64 fv)).setCell ⟨w.heap.size, 2, none⟩ (.int .i64 0)).setCell ⟨w.heap.size, 3, none⟩ (.int .i64 0)).setCell ⟨w.heap.size, 4, none⟩ (.slice (some ⟨w1.heap.size, 0, none⟩) ps.length ps.length)).setCell ⟨w.heap.size, 5, none⟩ (.slice none 0 0)).setCell ⟨w.heap.size, 6, none⟩ (.slice none 0 0)).setCell ⟨w.heap.size, 7, none⟩ (.slice none 0 0)) from by
    rw [newL_yes (HB.out.trans hn), HB.out, hn, HV.out]
    exact ⟨⟨some ⟨w1.heap.size, 0, none⟩, ps.length, none, 0, none, 0, none, 0⟩, rfl, ownB_folk ((OP.out.grown G (by omega)).mono (by omega)) ⟨.inr ⟨_, rfl⟩, .inl ⟨rfl, rfl⟩, .inl ⟨rfl, rfl⟩, .inl ⟨rfl, rfl⟩, Nat.le_refl _, Nat.le_refl _, Nat.le_refl _, Nat.le_refl _⟩, (Below.setCell (Below.setCell (Below.setCell (Below.setCell (Below.setCell (Below.setCell (Below.setCell (Below.setCell B2.out (p := ⟨w.heap.size, 0, none⟩) (Nat.le_refl _) (.int .i64 0)) (p := ⟨w.heap.size, 1, none⟩) (Nat.le_refl _) (.int .i64 fv)) (p := ⟨w.heap.size, 2, none⟩) (Nat.le_refl _) (.int .i64 0)) (p := ⟨w.heap.size, 3, none⟩) (Nat.le_refl _) (.int .i64 0)) (p := ⟨w.heap.size, 4, none⟩) (Nat.le_refl _) (.slice (some ⟨w1.heap.size, 0, none⟩) ps.length ps.length)) (p := ⟨w.heap.size, 5, none⟩) (Nat.le_refl _) (.slice none 0 0)) (p := ⟨w.heap.size, 6, none⟩) (Nat.le_refl _) (.slice none 0 0)) (p := ⟨w.heap.size, 7, none⟩) (Nat.le_refl _) (.slice none 0 0))⟩)
  clear G
  go_wp2
  exact bodyPost_ret (v := .tuple #[.agg #[.int .i64 0, .int .i64 fv, .int .i64 0, .int .i64 0, .slice (some ⟨w1.heap.size, 0, none⟩) ps.length ps.length, .slice none 0 0, .slice none 0 0, .slice none 0 0], .bool true]) (by simp [results, Tryz.results7, go_sem, r0, r1, r2, r3, r4, r5, r6, r7]) rfl HN.out

set_option maxHeartbeats 4000000 in
set_option maxRecDepth 100000 in
theorem sNewBook_any {w : World} {b off : Nat} {ps : List Pur} (cap : Nat) (h : Purs w (some ⟨b, off, none⟩) ps) (hl : ps.length ≤ 1048576) (hs : Sized (pnames ps)) :
    Calls Tryz.prog 8 #[.slice (some ⟨b, off, none⟩) ps.length cap] w (NewRes (newL ps) (newB ps) w) := by
  obtain ⟨W, hW⟩ : ∃ W, w.alloc (.cells #[.int .i64 0, .int .i64 0, .int .i64 0, .int .i64 0, .slice none 0 0, .slice none 0 0, .slice none 0 0, .slice none 0 0] 29) = W := ⟨_, rfl⟩
  have R0 := Lib.hid (OutV.new w [.int .i64 0, .int .i64 0, .int .i64 0, .int .i64 0, .slice none 0 0, .slice none 0 0, .slice none 0 0, .slice none 0 0] 29)
  have B0 := Lib.hid (below_new w (.cells #[.int .i64 0, .int .i64 0, .int .i64 0, .int .i64 0, .slice none 0 0, .slice none 0 0, .slice none 0 0, .slice none 0 0] 29))
  rw [show w.alloc (.cells ([.int .i64 0, .int .i64 0, .int .i64 0, .int .i64 0, .slice none 0 0, .slice none 0 0, .slice none 0 0, .slice none 0 0] : List Value).toArray 29) = W from hW] at R0
  rw [hW] at B0
  have H := Lib.hid (h.below B0.out)
  have HS := Lib.hid hs
  clear h hs
  go_enter Tryz.func8, Tryz.ntmps8
  go_wp2_with fail
  refine (l3Copy_any _ H.out hl).mono ?_
  rintro e w1 ⟨b1, cap1, rfl, hp1, hlo1, hlt1, hm1, hb1, hcap1, -⟩
  have R1 := Lib.hid (R0.out.below hb1)
  have B1 := Lib.hid (below_trans B0.out hb1)
  have H1 := Lib.hid (H.out.below hb1)
  have hrlt := R0.out.lt
  have O1 := Lib.hid (show OwnP w1 (w.heap.size + 1) (some ⟨b1, 0, none⟩) ps from ⟨hp1, .inr ⟨_, rfl, by omega, hlt1, hm1⟩⟩)
  clear hb1 hp1 hm1 R0 B0 H
  go_wp2_with fail
  refine (sFreeIn_any _ H1.out hl HS.out).mono ?_
  rintro e w2 ⟨rfl, n2, hw2⟩
  have b2 : Below w1.heap.size w1 w2 := by rw [hw2]; exact below_draws (Below.refl _ _) n2
  have R2 := Lib.hid (R1.out.below b2)
  have B2 := Lib.hid (below_trans B1.out b2)
  have O2 := Lib.hid (O1.out.below b2)
  clear b2 hw2 R1 B1 H1 O1
  obtain ⟨fv, hfv⟩ : ∃ v, freeInV ps = v := ⟨_, rfl⟩
  have HK := Lib.hid (new_book ps)
  rw [hfv] at HK
  have HV := Lib.hid hfv
  rw [hfv]
  clear hfv
  go_wp2_with fail
  obtain ⟨V, hV⟩ : ∃ V, w2.alloc (.cells #[.int .i64 0, .int .i64 fv, .int .i64 0, .int .i64 0, .slice (some ⟨b1, 0, none⟩) ps.length cap1, .slice none 0 0, .slice none 0 0, .slice none 0 0] 29) = V := ⟨_, rfl⟩
  have V1 := Lib.hid (OutV.new w2 [.int .i64 0, .int .i64 fv, .int .i64 0, .int .i64 0, .slice (some ⟨b1, 0, none⟩) ps.length cap1, .slice none 0 0, .slice none 0 0, .slice none 0 0] 29)
  have bV := below_new w2 (.cells #[.int .i64 0, .int .i64 fv, .int .i64 0, .int .i64 0, .slice (some ⟨b1, 0, none⟩) ps.length cap1, .slice none 0 0, .slice none 0 0, .slice none 0 0] 29)
  rw [show w2.alloc (.cells ([.int .i64 0, .int .i64 fv, .int .i64 0, .int .i64 0, .slice (some ⟨b1, 0, none⟩) ps.length cap1, .slice none 0 0, .slice none 0 0, .slice none 0 0] : List Value).toArray 29) = V from hV] at V1
  rw [hV] at bV
  rw [hV]
  have R3 := Lib.hid (R2.out.below bV)
  have B3 := Lib.hid (below_trans B2.out bV)
  have O3 := Lib.hid (O2.out.below bV)
  clear bV R2 B2 O2 hV
  refine (sBookOk_any (b := bokOf ps fv) (s := ⟨some ⟨b1, 0, none⟩, cap1, none, 0, none, 0, none, 0⟩) (bookAt_folk O3.out.1) (bokOf_len fv hl) (bokOf_sized fv HS.out)).mono ?_
  rw [HK.out]
  rintro e w4 ⟨rfl, hb4⟩
  have R4 := Lib.hid (R3.out.below hb4)
  have B4 := Lib.hid (below_trans B3.out hb4)
  have O4 := Lib.hid (O3.out.below hb4)
  have V4 := Lib.hid (V1.out.below hb4)
  clear hb4 R3 B3 O3 V1
  have r0 := R4.out.has 0 _ rfl
  have r1 := R4.out.has 1 _ rfl
  have r2 := R4.out.has 2 _ rfl
  have r3 := R4.out.has 3 _ rfl
  have r4 := R4.out.has 4 _ rfl
  have r5 := R4.out.has 5 _ rfl
  have r6 := R4.out.has 6 _ rfl
  have r7 := R4.out.has 7 _ rfl
  have rf := R4.out.free
  cases hn : newB ps
  · have HN := Lib.hid (show NewRes (newL ps) (newB ps) w (.returned (.tuple #[.agg #[.int .i64 0, .int .i64 0, .int .i64 0, .int .i64 0, .slice none 0 0, .slice none 0 0, .slice none 0 0, .slice none 0 0], .bool false])) ((((((((w4.setCell ⟨w.heap.size, 0, none⟩ (.int .i64 0)).setCell ⟨w.heap.size, 1, none⟩ (.int .i64 0)).setCell ⟨w.heap.size, 2, none⟩ (.int .i64 0)).setCell ⟨w.heap.size, 3, none⟩ (.int .i64 0)).setCell ⟨w.heap.size, 4, none⟩ (.slice none 0 0)).setCell ⟨w.heap.size, 5, none⟩ (.slice none 0 0)).setCell ⟨w.heap.size, 6, none⟩ (.slice none 0 0)).setCell ⟨w.heap.size, 7, none⟩ (.slice none 0 0)) from by
      rw [newL_no hn, hn]
      exact ⟨⟨none, 0, none, 0, none, 0, none, 0⟩, rfl, ownB_nil _ _ _ ⟨.inl ⟨rfl, rfl⟩, .inl ⟨rfl, rfl⟩, .inl ⟨rfl, rfl⟩, .inl ⟨rfl, rfl⟩, Nat.le_refl _, Nat.le_refl _, Nat.le_refl _, Nat.le_refl _⟩, (Below.setCell (Below.setCell (Below.setCell (Below.setCell (Below.setCell (Below.setCell (Below.setCell (Below.setCell B4.out (p := ⟨w.heap.size, 0, none⟩) (Nat.le_refl _) (.int .i64 0)) (p := ⟨w.heap.size, 1, none⟩) (Nat.le_refl _) (.int .i64 0)) (p := ⟨w.heap.size, 2, none⟩) (Nat.le_refl _) (.int .i64 0)) (p := ⟨w.heap.size, 3, none⟩) (Nat.le_refl _) (.int .i64 0)) (p := ⟨w.heap.size, 4, none⟩) (Nat.le_refl _) (.slice none 0 0)) (p := ⟨w.heap.size, 5, none⟩) (Nat.le_refl _) (.slice none 0 0)) (p := ⟨w.heap.size, 6, none⟩) (Nat.le_refl _) (.slice none 0 0)) (p := ⟨w.heap.size, 7, none⟩) (Nat.le_refl _) (.slice none 0 0))⟩)
    go_wp2
    exact bodyPost_ret (v := .tuple #[.agg #[.int .i64 0, .int .i64 0, .int .i64 0, .int .i64 0, .slice none 0 0, .slice none 0 0, .slice none 0 0, .slice none 0 0], .bool false]) (by simp [results, Tryz.results8, go_sem, r0, r1, r2, r3, r4, r5, r6, r7]) rfl HN.out
  have v0 := V4.out.has 0 _ rfl
  have v1 := V4.out.has 1 _ rfl
  have v2 := V4.out.has 2 _ rfl
  have v3 := V4.out.has 3 _ rfl
  have v4 := V4.out.has 4 _ rfl
  have v5 := V4.out.has 5 _ rfl
  have v6 := V4.out.has 6 _ rfl
  have v7 := V4.out.has 7 _ rfl
  have G := (gset (o := 7) (gset (o := 6) (gset (o := 5) (gset (o := 4) (gset (o := 3) (gset (o := 2) (gset (o := 1) (gset (o := 0) (gid w4 (some w.heap.size)) (.int .i64 0)) (.int .i64 fv)) (.int .i64 0)) (.int .i64 0)) (.slice (some ⟨b1, 0, none⟩) ps.length cap1)) (.slice none 0 0)) (.slice none 0 0)) (.slice none 0 0))
  have HN := Lib.hid (show NewRes (newL ps) (newB ps) w (.returned (.tuple #[.agg #[.int .i64 0, .int .i64 fv, .int .i64 0, .int .i64 0, .slice (some ⟨b1, 0, none⟩) ps.length cap1, .slice none 0 0, .slice none 0 0, .slice none 0 0], .bool true])) ((((((((w4.setCell ⟨w.heap.size, 0, none⟩ (.int .i64 0)).setCell ⟨w.heap.size, 1, none⟩ (.int .i64 fv)).setCell ⟨w.heap.size, 2, none⟩ (.int .i64 0)).setCell ⟨w.heap.size, 3, none⟩ (.int .i64 0)).setCell ⟨w.heap.size, 4, none⟩ (.slice (some ⟨b1, 0, none⟩) ps.length cap1)).setCell ⟨w.heap.size, 5, none⟩ (.slice none 0 0)).setCell ⟨w.heap.size, 6, none⟩ (.slice none 0 0)).setCell ⟨w.heap.size, 7, none⟩ (.slice none 0 0)) from by
    rw [newL_yes hn, hn, HV.out]
    exact ⟨⟨some ⟨b1, 0, none⟩, cap1, none, 0, none, 0, none, 0⟩, rfl, ownB_folk ((O4.out.grown G (by omega)).mono (by omega)) ⟨.inr ⟨_, rfl⟩, .inl ⟨rfl, rfl⟩, .inl ⟨rfl, rfl⟩, .inl ⟨rfl, rfl⟩, hcap1, Nat.le_refl _, Nat.le_refl _, Nat.le_refl _⟩, (Below.setCell (Below.setCell (Below.setCell (Below.setCell (Below.setCell (Below.setCell (Below.setCell (Below.setCell B4.out (p := ⟨w.heap.size, 0, none⟩) (Nat.le_refl _) (.int .i64 0)) (p := ⟨w.heap.size, 1, none⟩) (Nat.le_refl _) (.int .i64 fv)) (p := ⟨w.heap.size, 2, none⟩) (Nat.le_refl _) (.int .i64 0)) (p := ⟨w.heap.size, 3, none⟩) (Nat.le_refl _) (.int .i64 0)) (p := ⟨w.heap.size, 4, none⟩) (Nat.le_refl _) (.slice (some ⟨b1, 0, none⟩) ps.length cap1)) (p := ⟨w.heap.size, 5, none⟩) (Nat.le_refl _) (.slice none 0 0)) (p := ⟨w.heap.size, 6, none⟩) (Nat.le_refl _) (.slice none 0 0)) (p := ⟨w.heap.size, 7, none⟩) (Nat.le_refl _) (.slice none 0 0))⟩)
  clear G
  go_wp2
  exact bodyPost_ret (v := .tuple #[.agg #[.int .i64 0, .int .i64 fv, .int .i64 0, .int .i64 0, .slice (some ⟨b1, 0, none⟩) ps.length cap1, .slice none 0 0, .slice none 0 0, .slice none 0 0], .bool true]) (by simp [results, Tryz.results8, go_sem, r0, r1, r2, r3, r4, r5, r6, r7]) rfl HN.out
end Go.Proofs.YtlnnchgaloejlaaGreat
namespace Go.Proofs.YtlnnchgaloejlaaGreat
open Go.ChangeShapes Go.WideShapes Go.ChangeAt Go.RowKit

/-- A copy of the call's own, in a block of its own. -/
def CopyOf {α : Type} (f : α → List Value) (c : Nat) (xs : List α) (w : World) (e : Ending) (w' : World) : Prop :=
  ∃ b cap, e = .returned (.slice (some ⟨b, 0, none⟩) xs.length cap) ∧ OwnR f c w' w.heap.size (some ⟨b, 0, none⟩) xs ∧ w.heap.size ≤ b ∧ b < w'.heap.size ∧ Below w.heap.size w w' ∧ xs.length ≤ cap
theorem OutV.keep {w w' : World} {O x : Nat} {vs : List Value} (h : OutV w O vs) (hg : w.grownBy w' (some x)) (hne : x ≠ O) : OutV w' O vs :=
  have hn : some O ≠ some x := by intro q; injection q with q; exact hne q.symm
  ⟨fun j v hj => (grown_keeps hg h.lt hn).trans (h.has j v hj), fun o => (World.frozen?_of_block (hg.block O h.lt hn)).trans (h.free o), Nat.lt_of_lt_of_le h.lt hg.size⟩
theorem purs_none {w : World} {ps : List Pur} (h : Purs w none ps) : ps = [] := by
  cases ps with
  | nil => rfl
  | cons p r => obtain ⟨b, off, e, _⟩ := h.at 0 (by simp); cases e
theorem recs_none {α : Type} {f : α → List Value} {c : Nat} {w : World} {xs : List α} (hc : ∀ x, (f x).length = c) (h0 : 0 < c) (h : Recs f w none xs) : xs = [] := by
  cases xs with
  | nil => rfl
  | cons p r => obtain ⟨b, off, e, _⟩ := h.cell hc h0 0 (by simp); cases e

set_option maxHeartbeats 1000000 in
set_option maxRecDepth 100000 in
theorem l3Copy_nil {w : World} : Calls Tryz.prog 24 #[.slice none 0 0] w (CopyRes [] w) := by
  obtain ⟨i0, hi, hz0, hz1, hz2⟩ := info_parts info_purse2
  have HI := Lib.hid hi
  have HR : Hid (CopyRes [] w (.returned (.slice (some ⟨w.heap.size, 0, none⟩) 0 0)) (w.alloc (.cells #[] 41))) :=
    ⟨_, 0, rfl, Lies.nil _ _, Nat.le_refl _, by simp, ⟨fun j hj => by simp at hj, free_new _ _ _⟩, below_new _ _, Nat.le_refl _, ⟨rfl, .inr ⟨w.heap.size, 0, #[], rfl, Nat.le_refl _, heap_alloc_new _ _, Nat.le_refl _, Nat.zero_le _, by simp, by simp [pcells]⟩⟩⟩
  clear hi hz0 hz1 hz2
  go_enter Tryz.func24, Tryz.ntmps24
  go_wp2_with (at_builtin; refine wpList_append_own_none rfl _ _ 24 rfl w.heap.size 41 i0 2 Tryz.underlying24 HI.out (.slice (some ⟨w.heap.size, 0, none⟩) 0 0) 0 [] rfl ?c0 rfl ?_)
  case c0 => exact ⟨by simp, .inr ⟨w.heap.size, 0, #[], rfl, Nat.le_refl _, heap_alloc_new _ _, Nat.le_refl _, Nat.zero_le _, by simp, by simp⟩⟩
  go_wp2
  go_ret
  exact HR.out

theorem l3Copy_at {w : World} {a : Option Addr} {cap : Nat} {ps : List Pur} (hr : Rooted a cap) (h : Purs w a ps) (hl : ps.length ≤ 1048576) :
    Calls Tryz.prog 24 #[.slice a ps.length cap] w (CopyRes ps w) := by
  rcases hr with ⟨rfl, rfl⟩ | ⟨x, rfl⟩
  · have := purs_none h
    subst this
    exact l3Copy_nil
  · exact l3Copy_any _ h hl

set_option maxHeartbeats 1000000 in
set_option maxRecDepth 100000 in
theorem l5Copy_nil {w : World} : Calls Tryz.prog 132 #[.slice none 0 0] w (CopyOf Par.cs 3 [] w) := by
  obtain ⟨i0, hi, hz0, hz1, hz2⟩ := info_parts info_Part
  have HI := Lib.hid hi
  have HR : Hid (CopyOf Par.cs 3 [] w (.returned (.slice (some ⟨w.heap.size, 0, none⟩) 0 0)) (w.alloc (.cells #[] 68))) :=
    ⟨_, 0, rfl, ⟨Lies.nil _ _, .inl rfl⟩, Nat.le_refl _, by simp, below_new _ _, Nat.le_refl _⟩
  clear hi hz0 hz1 hz2
  go_enter Tryz.func132, Tryz.ntmps132
  go_wp2_with (at_builtin; refine wpList_append_own_none rfl _ _ 26 rfl w.heap.size 68 i0 3 Tryz.underlying26 HI.out (.slice (some ⟨w.heap.size, 0, none⟩) 0 0) 0 [] rfl ?c0 rfl ?_)
  case c0 => exact ⟨by simp, .inr ⟨w.heap.size, 0, #[], rfl, Nat.le_refl _, heap_alloc_new _ _, Nat.le_refl _, Nat.zero_le _, by simp, by simp⟩⟩
  go_wp2
  go_ret
  exact HR.out

set_option maxHeartbeats 1000000 in
set_option maxRecDepth 100000 in
theorem l6Copy_nil {w : World} : Calls Tryz.prog 134 #[.slice none 0 0] w (CopyOf Wai.cs 4 [] w) := by
  obtain ⟨i0, hi, hz0, hz1, hz2⟩ := info_parts info_Wait
  have HI := Lib.hid hi
  have HR : Hid (CopyOf Wai.cs 4 [] w (.returned (.slice (some ⟨w.heap.size, 0, none⟩) 0 0)) (w.alloc (.cells #[] 74))) :=
    ⟨_, 0, rfl, ⟨Lies.nil _ _, .inl rfl⟩, Nat.le_refl _, by simp, below_new _ _, Nat.le_refl _⟩
  clear hi hz0 hz1 hz2
  go_enter Tryz.func134, Tryz.ntmps134
  go_wp2_with (at_builtin; refine wpList_append_own_none rfl _ _ 27 rfl w.heap.size 74 i0 4 Tryz.underlying27 HI.out (.slice (some ⟨w.heap.size, 0, none⟩) 0 0) 0 [] rfl ?c0 rfl ?_)
  case c0 => exact ⟨by simp, .inr ⟨w.heap.size, 0, #[], rfl, Nat.le_refl _, heap_alloc_new _ _, Nat.le_refl _, Nat.zero_le _, by simp, by simp⟩⟩
  go_wp2
  go_ret
  exact HR.out

theorem row_lt {w : World} {base : Nat} {e : TypeId} {c b n cap : Nat} {xs : List Value} (h : w.ownsRow base e c (.slice (some ⟨b, 0, none⟩) n cap) n xs) : base ≤ b ∧ b < w.heap.size := by
  rcases h.2 with ⟨h0, _⟩ | ⟨g, cap', cur, hv, hg, hh, _⟩
  · cases h0
  · injection hv with hv _ _
    injection hv with hv; injection hv with hv
    subst hv
    exact ⟨hg, (Array.getElem?_eq_some_iff.1 hh).1⟩

theorem l5Copy_at {w : World} {a : Option Addr} {cap : Nat} {ps : List Par} (hr : Rooted a cap) (h : Recs Par.cs w a ps) (hl : ps.length ≤ 1048576) :
    Calls Tryz.prog 132 #[.slice a ps.length cap] w (CopyOf Par.cs 3 ps w) := by
  rcases hr with ⟨rfl, rfl⟩ | ⟨x, rfl⟩
  · have := recs_none Par.len (by omega) h
    subst this
    exact l5Copy_nil
  · refine (l5Copy_any _ h hl).mono ?_
    rintro e w' ⟨b, cap', rfl, ho, hrow, hb⟩
    exact ⟨b, cap', rfl, ho, (row_lt hrow).1, (row_lt hrow).2, hb, (own_some hrow).2.1⟩

theorem l6Copy_at {w : World} {a : Option Addr} {cap : Nat} {ps : List Wai} (hr : Rooted a cap) (h : Recs Wai.cs w a ps) (hl : ps.length ≤ 1048576) :
    Calls Tryz.prog 134 #[.slice a ps.length cap] w (CopyOf Wai.cs 4 ps w) := by
  rcases hr with ⟨rfl, rfl⟩ | ⟨x, rfl⟩
  · have := recs_none Wai.len (by omega) h
    subst this
    exact l6Copy_nil
  · refine (l6Copy_any _ h hl).mono ?_
    rintro e w' ⟨b, cap', rfl, ho, hrow, hb⟩
    exact ⟨b, cap', rfl, ho, (row_lt hrow).1, (row_lt hrow).2, hb, (own_some hrow).2.1⟩
end Go.Proofs.YtlnnchgaloejlaaGreat
namespace Go.Proofs.YtlnnchgaloejlaaGreat
open Go.ChangeShapes Go.WideShapes Go.ChangeAt Go.RowKit

/-- Each of its lists has a block. -/
structure Solid (s : Spots) : Prop where
  f : ∃ x, s.fa = some ⟨x, 0, none⟩
  m : ∃ x, s.ma = some ⟨x, 0, none⟩
  p : ∃ x, s.pa = some ⟨x, 0, none⟩
  w : ∃ x, s.wa = some ⟨x, 0, none⟩
/-- The same book, of the call's own, each list in a block. -/
def ToS (b : Bok) (w : World) (e : Ending) (w' : World) : Prop :=
  ∃ s : Spots, e = .returned (.agg #[.int .i64 b.season, .int .i64 b.supply, .int .i64 b.burnt, .int .i64 b.pot, .slice s.fa b.folk.length s.fc, .slice s.ma b.mills.length s.mc, .slice s.pa b.parts.length s.pc, .slice s.wa b.waits.length s.wc]) ∧ OwnB w' w.heap.size b s ∧ Below w.heap.size w w' ∧ Solid s

set_option maxHeartbeats 8000000 in
set_option maxRecDepth 100000 in
theorem l7Copy_sol {w : World} {b : Bok} {s : Spots} (h : BookAt w b s) (hr : Roots b s) (hl : BLen b) :
    Calls Tryz.prog 116 #[.agg #[.int .i64 b.season, .int .i64 b.supply, .int .i64 b.burnt, .int .i64 b.pot, .slice s.fa b.folk.length s.fc, .slice s.ma b.mills.length s.mc, .slice s.pa b.parts.length s.pc, .slice s.wa b.waits.length s.wc]] w (ToS b w) := by
  have HH := Lib.hid h
  have HR := Lib.hid hr
  have HL := Lib.hid hl
  have l2 := hl.ml
  clear h hr hl
  obtain ⟨i0, hi, hz0, hz1, hz2⟩ := info_parts info_Mill
  have HI := Lib.hid hi
  have HZ0 := Lib.hid hz0
  have HZ1 := Lib.hid hz1
  have HZ2 := Lib.hid hz2
  clear hi hz0 hz1 hz2
  obtain ⟨W0, hW0⟩ : ∃ W, w.alloc (.cells #[.int .i64 b.season, .int .i64 b.supply, .int .i64 b.burnt, .int .i64 b.pot, .slice s.fa b.folk.length s.fc, .slice s.ma b.mills.length s.mc, .slice s.pa b.parts.length s.pc, .slice s.wa b.waits.length s.wc] 29) = W := ⟨_, rfl⟩
  have hs0 : W0.heap.size = w.heap.size + 1 := by rw [← hW0]; simp
  have X0 := Lib.hid (OutV.new w (#[.int .i64 b.season, .int .i64 b.supply, .int .i64 b.burnt, .int .i64 b.pot, .slice s.fa b.folk.length s.fc, .slice s.ma b.mills.length s.mc, .slice s.pa b.parts.length s.pc, .slice s.wa b.waits.length s.wc] : Array Value).toList 29)
  have D0 := Lib.hid (below_new w (.cells #[.int .i64 b.season, .int .i64 b.supply, .int .i64 b.burnt, .int .i64 b.pot, .slice s.fa b.folk.length s.fc, .slice s.ma b.mills.length s.mc, .slice s.pa b.parts.length s.pc, .slice s.wa b.waits.length s.wc] 29))
  rw [show w.alloc (.cells ((#[.int .i64 b.season, .int .i64 b.supply, .int .i64 b.burnt, .int .i64 b.pot, .slice s.fa b.folk.length s.fc, .slice s.ma b.mills.length s.mc, .slice s.pa b.parts.length s.pc, .slice s.wa b.waits.length s.wc] : Array Value).toList).toArray 29) = W0 from hW0] at X0
  rw [hW0] at D0
  obtain ⟨W1, hW1⟩ : ∃ W, W0.alloc (.cells #[.int .i64 0, .int .i64 0, .int .i64 0, .int .i64 0, .slice none 0 0, .slice none 0 0, .slice none 0 0, .slice none 0 0] 29) = W := ⟨_, rfl⟩
  have hs1 : W1.heap.size = w.heap.size + 1 + 1 := by rw [← hW1]; simp [hs0]
  have X1 := Lib.hid (X0.out.below (below_new W0 (.cells #[.int .i64 0, .int .i64 0, .int .i64 0, .int .i64 0, .slice none 0 0, .slice none 0 0, .slice none 0 0, .slice none 0 0] 29)))
  have R1 := Lib.hid (OutV.new W0 [.int .i64 0, .int .i64 0, .int .i64 0, .int .i64 0, .slice none 0 0, .slice none 0 0, .slice none 0 0, .slice none 0 0] 29)
  have D1 := Lib.hid (below_trans D0.out (below_new W0 (.cells #[.int .i64 0, .int .i64 0, .int .i64 0, .int .i64 0, .slice none 0 0, .slice none 0 0, .slice none 0 0, .slice none 0 0] 29)))
  simp only [hs0] at R1
  rw [hW1] at X1 R1 D1
  have S1 := Lib.hid hs1
  clear X0 D0 hs1
  have c4 := X1.out.has 4 _ rfl
  go_enter Tryz.func116, Tryz.ntmps116
  go_wp2_with fail
  refine (l3Copy_at HR.out.f (HH.out.folk.below D1.out) HL.out.fl).mono ?_
  rintro e w1 ⟨bf, cf, rfl, hp1, hlo1, hlt1, hm1, hb1, hcf, -⟩
  have P1 := Lib.hid (show OwnP w1 (w.heap.size + 1 + 1) (some ⟨bf, 0, none⟩) b.folk from ⟨hp1, .inr ⟨_, rfl, by have := S1.out; omega, hlt1, hm1⟩⟩)
  have X2 := Lib.hid (X1.out.below hb1)
  have R2 := Lib.hid (R1.out.below hb1)
  have D2 := Lib.hid (below_trans D1.out hb1)
  clear hp1 hm1 hb1 X1 R1 D1 c4
  have x4 := X2.out.has 4 _ rfl
  have xf := X2.out.free
  have X3 := Lib.hid (X2.out.set 4 (.slice (some ⟨bf, 0, none⟩) b.folk.length cf))
  have g2 := gset (o := 4) (gid w1 (some w.heap.size)) (.slice (some ⟨bf, 0, none⟩) b.folk.length cf)
  obtain ⟨V2, hV2⟩ : ∃ W, w1.setCell ⟨w.heap.size, 4, none⟩ (.slice (some ⟨bf, 0, none⟩) b.folk.length cf) = W := ⟨_, rfl⟩
  have D3 := Lib.hid (D2.out.setCell (p := ⟨w.heap.size, 4, none⟩) (Nat.le_refl _) (.slice (some ⟨bf, 0, none⟩) b.folk.length cf))
  have R3 := Lib.hid (R2.out.keep g2 (by omega))
  have P3 := Lib.hid (P1.out.grown g2 (by omega))
  rw [hV2] at X3 D3 R3 P3 g2
  have hz2 := g2.size
  have c5 := X3.out.has 5 _ rfl
  have MM := Lib.hid (HH.out.mills.below D3.out)
  clear X2 R2 D2 P1 g2 c5
  obtain ⟨U, hU⟩ : ∃ U, V2.alloc (.cells #[] 54) = U := ⟨_, rfl⟩
  have bU := below_new V2 (.cells #[] 54)
  have sU : V2.heap.size < (V2.alloc (.cells #[] 54)).heap.size := by simp
  have HO : Hid ((V2.alloc (.cells #[] 54)).ownsRow V2.heap.size 54 5 (.slice (some ⟨V2.heap.size, 0, none⟩) 0 0) 0 []) := ⟨by simp, .inr ⟨V2.heap.size, 0, #[], rfl, Nat.le_refl _, heap_alloc_new _ _, Nat.le_refl _, Nat.zero_le _, by simp, by simp⟩⟩
  rw [hU] at bU sU HO
  have XU := Lib.hid (X3.out.below bU)
  have MU := Lib.hid (MM.out.below bU)
  have xf := XU.out.free
  have HbU := Lib.hid bU
  clear bU
  have HE : ∀ (nm bm cm : Nat) (w2 : World), nm = b.mills.length → OwnR Mil.cs 5 w2 (w.heap.size + 1 + 1) (some ⟨bm, 0, none⟩) b.mills → V2.heap.size ≤ bm → bm < w2.heap.size → Below V2.heap.size V2 w2 → Hid (nm = nm) := fun _ _ _ _ _ _ _ _ _ => Lib.hid rfl
  clear HE
  have hge : w.heap.size + 1 + 1 ≤ V2.heap.size := by have := S1.out; omega
  rcases HR.out.m with ⟨ea, ec⟩ | ⟨xm, ea⟩
  · have hnil : b.mills = [] := recs_none Mil.len (by omega) (by have := MM.out; rw [ea] at this; exact this)
    have c5 : U.cell? ⟨w.heap.size, 5, none⟩ = some (.slice none 0 0) := by have := XU.out.has 5 _ rfl; rw [ea, ec, hnil] at this; exact this
    have hnl := Lib.hid (show b.mills.length = 0 by rw [hnil]; rfl)
    have M4 := Lib.hid (show OwnR Mil.cs 5 U (w.heap.size + 1 + 1) (some ⟨V2.heap.size, 0, none⟩) b.mills by rw [hnil]; exact ⟨Lies.nil _ _, .inl rfl⟩)
    have H2 := HbU
    have hbm : V2.heap.size < U.heap.size := sU
    clear ea ec hnil
    have X4 := Lib.hid (X3.out.below H2.out)
    have R4 := Lib.hid (R3.out.below H2.out)
    have P4 := Lib.hid (P3.out.below H2.out)
    have D4 := Lib.hid (below_trans D3.out H2.out)
    have yf := X4.out.free
    have x5s := Lib.hid (X4.out.set 5 (.slice (some ⟨V2.heap.size, 0, none⟩) 0 0))
    have gs4 := gset (o := 5) (gid U (some w.heap.size)) (.slice (some ⟨V2.heap.size, 0, none⟩) 0 0)
    have d4s := Lib.hid (D4.out.setCell (p := ⟨w.heap.size, 5, none⟩) (Nat.le_refl _) (.slice (some ⟨V2.heap.size, 0, none⟩) 0 0))
    have r4s := Lib.hid (R4.out.keep gs4 (by omega))
    have P4s := Lib.hid (P4.out.grown gs4 (by omega))
    have M4s := Lib.hid (M4.out.grown gs4 (by omega))
    obtain ⟨V3, hV3⟩ : ∃ W, U.setCell ⟨w.heap.size, 5, none⟩ (.slice (some ⟨V2.heap.size, 0, none⟩) 0 0) = W := ⟨_, rfl⟩
    rw [hV3] at x5s gs4 d4s r4s P4s M4s
    have hzV3 := gs4.size
    have z6 := x5s.out.has 6 _ rfl
    go_wp2_with (at_builtin; refine wpList_append_own_none rfl _ _ 25 rfl V2.heap.size 54 i0 5 Tryz.underlying25 HI.out (.slice (some ⟨V2.heap.size, 0, none⟩) 0 0) 0 [] rfl HO.out rfl ?_)
    clear z6 yf hV3 c5
    refine (l5Copy_at HR.out.p (HH.out.parts.below d4s.out) HL.out.pl).mono ?_
    rintro e w3 ⟨bp, cp, rfl, ho3, hlo3, hlt3, hb3, hcp⟩
    have Q5 := Lib.hid (show OwnR Par.cs 3 w3 (w.heap.size + 1 + 1) (some ⟨bp, 0, none⟩) b.parts from ho3.mono (by omega))
    have X5 := Lib.hid (x5s.out.below hb3)
    have R5 := Lib.hid (r4s.out.below hb3)
    have P5 := Lib.hid (P4s.out.below hb3)
    have M5 := Lib.hid (M4s.out.below hb3)
    have D5 := Lib.hid (below_trans d4s.out hb3)
    clear ho3 hb3 x5s r4s P4s M4s d4s X4 R4 P4 M4 D4 gs4
    have y6 := X5.out.has 6 _ rfl
    have yf := X5.out.free
    have x6s := Lib.hid (X5.out.set 6 (.slice (some ⟨bp, 0, none⟩) b.parts.length cp))
    have gs5 := gset (o := 6) (gid w3 (some w.heap.size)) (.slice (some ⟨bp, 0, none⟩) b.parts.length cp)
    have d5s := Lib.hid (D5.out.setCell (p := ⟨w.heap.size, 6, none⟩) (Nat.le_refl _) (.slice (some ⟨bp, 0, none⟩) b.parts.length cp))
    have r5s := Lib.hid (R5.out.keep gs5 (by omega))
    have P5s := Lib.hid (P5.out.grown gs5 (by omega))
    have M5s := Lib.hid (M5.out.grown gs5 (by omega))
    have Q5s := Lib.hid (Q5.out.grown gs5 (by omega))
    obtain ⟨V4, hV4⟩ : ∃ W, w3.setCell ⟨w.heap.size, 6, none⟩ (.slice (some ⟨bp, 0, none⟩) b.parts.length cp) = W := ⟨_, rfl⟩
    rw [hV4] at x6s gs5 d5s r5s P5s M5s Q5s
    have hzV4 := gs5.size
    have z7 := x6s.out.has 7 _ rfl
    go_wp2_with fail
    clear y6 z7 yf hV4
    refine (l6Copy_at HR.out.w (HH.out.waits.below d5s.out) HL.out.wl).mono ?_
    rintro e w4 ⟨bw, cw, rfl, ho4, hlo4, hlt4, hb4, hcw⟩
    have A6 := Lib.hid (show OwnR Wai.cs 4 w4 (w.heap.size + 1 + 1) (some ⟨bw, 0, none⟩) b.waits from ho4.mono (by omega))
    have X6 := Lib.hid (x6s.out.below hb4)
    have R6 := Lib.hid (r5s.out.below hb4)
    have P6 := Lib.hid (P5s.out.below hb4)
    have M6 := Lib.hid (M5s.out.below hb4)
    have Q6 := Lib.hid (Q5s.out.below hb4)
    have D6 := Lib.hid (below_trans d5s.out hb4)
    clear ho4 hb4 x6s r5s P5s M5s Q5s d5s X5 R5 P5 M5 Q5 D5 gs5
    have y7 := X6.out.has 7 _ rfl
    have yf := X6.out.free
    have x7s := Lib.hid (X6.out.set 7 (.slice (some ⟨bw, 0, none⟩) b.waits.length cw))
    have gs6 := gset (o := 7) (gid w4 (some w.heap.size)) (.slice (some ⟨bw, 0, none⟩) b.waits.length cw)
    have d6s := Lib.hid (D6.out.setCell (p := ⟨w.heap.size, 7, none⟩) (Nat.le_refl _) (.slice (some ⟨bw, 0, none⟩) b.waits.length cw))
    have r6s := Lib.hid (R6.out.keep gs6 (by omega))
    have P6s := Lib.hid (P6.out.grown gs6 (by omega))
    have M6s := Lib.hid (M6.out.grown gs6 (by omega))
    have Q6s := Lib.hid (Q6.out.grown gs6 (by omega))
    have A6s := Lib.hid (A6.out.grown gs6 (by omega))
    obtain ⟨V5, hV5⟩ : ∃ W, w4.setCell ⟨w.heap.size, 7, none⟩ (.slice (some ⟨bw, 0, none⟩) b.waits.length cw) = W := ⟨_, rfl⟩
    rw [hV5] at x7s gs6 d6s r6s P6s M6s Q6s A6s
    have hzV5 := gs6.size
    have o0 := x7s.out.has 0 _ rfl
    have o1 := x7s.out.has 1 _ rfl
    have o2 := x7s.out.has 2 _ rfl
    have o3 := x7s.out.has 3 _ rfl
    have o4 := x7s.out.has 4 _ rfl
    have o5 := x7s.out.has 5 _ rfl
    have o6 := x7s.out.has 6 _ rfl
    have o7 := x7s.out.has 7 _ rfl
    have r0 := r6s.out.has 0 _ rfl
    have r1 := r6s.out.has 1 _ rfl
    have r2 := r6s.out.has 2 _ rfl
    have r3 := r6s.out.has 3 _ rfl
    have r4 := r6s.out.has 4 _ rfl
    have r5 := r6s.out.has 5 _ rfl
    have r6 := r6s.out.has 6 _ rfl
    have r7 := r6s.out.has 7 _ rfl
    have rf := r6s.out.free
    have G5 := (gset (o := 7) (gset (o := 6) (gset (o := 5) (gset (o := 4) (gset (o := 3) (gset (o := 2) (gset (o := 1) (gset (o := 0) (gid V5 (some (w.heap.size + 1))) (.int .i64 b.season)) (.int .i64 b.supply)) (.int .i64 b.burnt)) (.int .i64 b.pot)) (.slice (some ⟨bf, 0, none⟩) b.folk.length cf)) (.slice (some ⟨V2.heap.size, 0, none⟩) 0 0)) (.slice (some ⟨bp, 0, none⟩) b.parts.length cp)) (.slice (some ⟨bw, 0, none⟩) b.waits.length cw))
    have HE := Lib.hid (show OwnB _ w.heap.size b ⟨some ⟨bf, 0, none⟩, cf, some ⟨V2.heap.size, 0, none⟩, 0, some ⟨bp, 0, none⟩, cp, some ⟨bw, 0, none⟩, cw⟩ from
      ⟨(P6s.out.grown G5 (by omega)).mono (by omega), (M6s.out.grown G5 (by omega)).mono (by omega), (Q6s.out.grown G5 (by omega)).mono (by omega), (A6s.out.grown G5 (by omega)).mono (by omega),
        ApartN.lt (by omega), ApartN.lt (by omega), ApartN.lt (by omega), ApartN.lt (by omega), ApartN.lt (by omega), ApartN.lt (by omega), ⟨.inr ⟨_, rfl⟩, .inr ⟨_, rfl⟩, .inr ⟨_, rfl⟩, .inr ⟨_, rfl⟩, hcf, Nat.le_of_eq hnl.out, hcp, hcw⟩⟩)
    have BE := Lib.hid (Below.setCell (Below.setCell (Below.setCell (Below.setCell (Below.setCell (Below.setCell (Below.setCell (Below.setCell d6s.out (p := ⟨w.heap.size + 1, 0, none⟩) (by simp) (.int .i64 b.season)) (p := ⟨w.heap.size + 1, 1, none⟩) (by simp) (.int .i64 b.supply)) (p := ⟨w.heap.size + 1, 2, none⟩) (by simp) (.int .i64 b.burnt)) (p := ⟨w.heap.size + 1, 3, none⟩) (by simp) (.int .i64 b.pot)) (p := ⟨w.heap.size + 1, 4, none⟩) (by simp) (.slice (some ⟨bf, 0, none⟩) b.folk.length cf)) (p := ⟨w.heap.size + 1, 5, none⟩) (by simp) (.slice (some ⟨V2.heap.size, 0, none⟩) 0 0)) (p := ⟨w.heap.size + 1, 6, none⟩) (by simp) (.slice (some ⟨bp, 0, none⟩) b.parts.length cp)) (p := ⟨w.heap.size + 1, 7, none⟩) (by simp) (.slice (some ⟨bw, 0, none⟩) b.waits.length cw))
    clear G5
    go_wp2
    exact bodyPost_ret (v := .agg #[.int .i64 b.season, .int .i64 b.supply, .int .i64 b.burnt, .int .i64 b.pot, .slice (some ⟨bf, 0, none⟩) b.folk.length cf, .slice (some ⟨V2.heap.size, 0, none⟩) 0 0, .slice (some ⟨bp, 0, none⟩) b.parts.length cp, .slice (some ⟨bw, 0, none⟩) b.waits.length cw]) (by simp [results, Tryz.results116, go_sem, r0, r1, r2, r3, r4, r5, r6, r7]) rfl ⟨_, by rw [hnl.out], HE.out, BE.out, ⟨_, rfl⟩, ⟨_, rfl⟩, ⟨_, rfl⟩, ⟨_, rfl⟩⟩
  · have c5 : U.cell? ⟨w.heap.size, 5, none⟩ = some (.slice (some ⟨xm, 0, none⟩) b.mills.length s.mc) := by have := XU.out.has 5 _ rfl; rw [ea] at this; exact this
    have MA : Hid (Recs Mil.cs U (some ⟨xm, 0, none⟩) b.mills) := by have := MU.out; rw [ea] at this; exact this
    clear ea
    go_wp2_with (at_builtin; refine wpList_append_own_at _ rfl _ _ 25 rfl V2.heap.size 54 i0 (.agg #[.string ByteArray.empty, .int .i64 0, .int .i64 0, .int .i64 0, .bool false]) 5 48 Tryz.underlying25 HI.out HZ0.out HZ1.out HZ2.out rfl (by decide) (.slice (some ⟨V2.heap.size, 0, none⟩) 0 0) 0 [] rfl HO.out ⟨xm, 0, none⟩ b.mills.length s.mc (b.mills.flatMap Mil.cs) rfl (flat_length Mil.len b.mills) ?c1 (flat_one Mil.one b.mills) ?c2 ?c3 ?c4 ?_)
    case c1 =>
      intro j u hj
      obtain ⟨b', off', e, hc⟩ := MA.out j u hj
      injection e with e; injection e with e1 e2; subst e1; subst e2
      rw [add_plain]; exact hc
    case c2 => unfold maxLen; omega
    case c3 => omega
    case c4 => exact Nat.le_of_lt sU
    intro v' w2 hown hgrow hnil hat
    obtain ⟨a', cm, rfl, ho, hq⟩ := ownR_of Mil.len hown
    obtain ⟨bm, rfl⟩ : ∃ g, a' = some ⟨g, 0, none⟩ := by
      rcases hq with hq | hq
      · exact absurd hq hnil
      · exact hq
    have hbm := row_lt hown
    have hcm : b.mills.length ≤ cm := by have := (own_some hown).2.1; omega
    have H2 := Lib.hid (show Below V2.heap.size V2 w2 from bgrown HbU.out (by omega) hgrow (own_at0 V2.heap.size))
    have M4 := Lib.hid (show OwnR Mil.cs 5 w2 (w.heap.size + 1 + 1) (some ⟨bm, 0, none⟩) b.mills from ho.mono hge)
    clear hown hgrow hnil hat ho hq c5
    have X4 := Lib.hid (X3.out.below H2.out)
    have R4 := Lib.hid (R3.out.below H2.out)
    have P4 := Lib.hid (P3.out.below H2.out)
    have D4 := Lib.hid (below_trans D3.out H2.out)
    have y5 := X4.out.has 5 _ rfl
    have yf := X4.out.free
    have x5s := Lib.hid (X4.out.set 5 (.slice (some ⟨bm, 0, none⟩) b.mills.length cm))
    have gs4 := gset (o := 5) (gid w2 (some w.heap.size)) (.slice (some ⟨bm, 0, none⟩) b.mills.length cm)
    have d4s := Lib.hid (D4.out.setCell (p := ⟨w.heap.size, 5, none⟩) (Nat.le_refl _) (.slice (some ⟨bm, 0, none⟩) b.mills.length cm))
    have r4s := Lib.hid (R4.out.keep gs4 (by omega))
    have P4s := Lib.hid (P4.out.grown gs4 (by omega))
    have M4s := Lib.hid (M4.out.grown gs4 (by omega))
    obtain ⟨V3, hV3⟩ : ∃ W, w2.setCell ⟨w.heap.size, 5, none⟩ (.slice (some ⟨bm, 0, none⟩) b.mills.length cm) = W := ⟨_, rfl⟩
    rw [hV3] at x5s gs4 d4s r4s P4s M4s
    have hzV3 := gs4.size
    have z6 := x5s.out.has 6 _ rfl
    go_wp2_with fail
    clear y5 z6 yf hV3
    refine (l5Copy_at HR.out.p (HH.out.parts.below d4s.out) HL.out.pl).mono ?_
    rintro e w3 ⟨bp, cp, rfl, ho3, hlo3, hlt3, hb3, hcp⟩
    have Q5 := Lib.hid (show OwnR Par.cs 3 w3 (w.heap.size + 1 + 1) (some ⟨bp, 0, none⟩) b.parts from ho3.mono (by omega))
    have X5 := Lib.hid (x5s.out.below hb3)
    have R5 := Lib.hid (r4s.out.below hb3)
    have P5 := Lib.hid (P4s.out.below hb3)
    have M5 := Lib.hid (M4s.out.below hb3)
    have D5 := Lib.hid (below_trans d4s.out hb3)
    clear ho3 hb3 x5s r4s P4s M4s d4s X4 R4 P4 M4 D4 gs4
    have y6 := X5.out.has 6 _ rfl
    have yf := X5.out.free
    have x6s := Lib.hid (X5.out.set 6 (.slice (some ⟨bp, 0, none⟩) b.parts.length cp))
    have gs5 := gset (o := 6) (gid w3 (some w.heap.size)) (.slice (some ⟨bp, 0, none⟩) b.parts.length cp)
    have d5s := Lib.hid (D5.out.setCell (p := ⟨w.heap.size, 6, none⟩) (Nat.le_refl _) (.slice (some ⟨bp, 0, none⟩) b.parts.length cp))
    have r5s := Lib.hid (R5.out.keep gs5 (by omega))
    have P5s := Lib.hid (P5.out.grown gs5 (by omega))
    have M5s := Lib.hid (M5.out.grown gs5 (by omega))
    have Q5s := Lib.hid (Q5.out.grown gs5 (by omega))
    obtain ⟨V4, hV4⟩ : ∃ W, w3.setCell ⟨w.heap.size, 6, none⟩ (.slice (some ⟨bp, 0, none⟩) b.parts.length cp) = W := ⟨_, rfl⟩
    rw [hV4] at x6s gs5 d5s r5s P5s M5s Q5s
    have hzV4 := gs5.size
    have z7 := x6s.out.has 7 _ rfl
    go_wp2_with fail
    clear y6 z7 yf hV4
    refine (l6Copy_at HR.out.w (HH.out.waits.below d5s.out) HL.out.wl).mono ?_
    rintro e w4 ⟨bw, cw, rfl, ho4, hlo4, hlt4, hb4, hcw⟩
    have A6 := Lib.hid (show OwnR Wai.cs 4 w4 (w.heap.size + 1 + 1) (some ⟨bw, 0, none⟩) b.waits from ho4.mono (by omega))
    have X6 := Lib.hid (x6s.out.below hb4)
    have R6 := Lib.hid (r5s.out.below hb4)
    have P6 := Lib.hid (P5s.out.below hb4)
    have M6 := Lib.hid (M5s.out.below hb4)
    have Q6 := Lib.hid (Q5s.out.below hb4)
    have D6 := Lib.hid (below_trans d5s.out hb4)
    clear ho4 hb4 x6s r5s P5s M5s Q5s d5s X5 R5 P5 M5 Q5 D5 gs5
    have y7 := X6.out.has 7 _ rfl
    have yf := X6.out.free
    have x7s := Lib.hid (X6.out.set 7 (.slice (some ⟨bw, 0, none⟩) b.waits.length cw))
    have gs6 := gset (o := 7) (gid w4 (some w.heap.size)) (.slice (some ⟨bw, 0, none⟩) b.waits.length cw)
    have d6s := Lib.hid (D6.out.setCell (p := ⟨w.heap.size, 7, none⟩) (Nat.le_refl _) (.slice (some ⟨bw, 0, none⟩) b.waits.length cw))
    have r6s := Lib.hid (R6.out.keep gs6 (by omega))
    have P6s := Lib.hid (P6.out.grown gs6 (by omega))
    have M6s := Lib.hid (M6.out.grown gs6 (by omega))
    have Q6s := Lib.hid (Q6.out.grown gs6 (by omega))
    have A6s := Lib.hid (A6.out.grown gs6 (by omega))
    obtain ⟨V5, hV5⟩ : ∃ W, w4.setCell ⟨w.heap.size, 7, none⟩ (.slice (some ⟨bw, 0, none⟩) b.waits.length cw) = W := ⟨_, rfl⟩
    rw [hV5] at x7s gs6 d6s r6s P6s M6s Q6s A6s
    have hzV5 := gs6.size
    have o0 := x7s.out.has 0 _ rfl
    have o1 := x7s.out.has 1 _ rfl
    have o2 := x7s.out.has 2 _ rfl
    have o3 := x7s.out.has 3 _ rfl
    have o4 := x7s.out.has 4 _ rfl
    have o5 := x7s.out.has 5 _ rfl
    have o6 := x7s.out.has 6 _ rfl
    have o7 := x7s.out.has 7 _ rfl
    have r0 := r6s.out.has 0 _ rfl
    have r1 := r6s.out.has 1 _ rfl
    have r2 := r6s.out.has 2 _ rfl
    have r3 := r6s.out.has 3 _ rfl
    have r4 := r6s.out.has 4 _ rfl
    have r5 := r6s.out.has 5 _ rfl
    have r6 := r6s.out.has 6 _ rfl
    have r7 := r6s.out.has 7 _ rfl
    have rf := r6s.out.free
    have G5 := (gset (o := 7) (gset (o := 6) (gset (o := 5) (gset (o := 4) (gset (o := 3) (gset (o := 2) (gset (o := 1) (gset (o := 0) (gid V5 (some (w.heap.size + 1))) (.int .i64 b.season)) (.int .i64 b.supply)) (.int .i64 b.burnt)) (.int .i64 b.pot)) (.slice (some ⟨bf, 0, none⟩) b.folk.length cf)) (.slice (some ⟨bm, 0, none⟩) b.mills.length cm)) (.slice (some ⟨bp, 0, none⟩) b.parts.length cp)) (.slice (some ⟨bw, 0, none⟩) b.waits.length cw))
    have HE := Lib.hid (show OwnB _ w.heap.size b ⟨some ⟨bf, 0, none⟩, cf, some ⟨bm, 0, none⟩, cm, some ⟨bp, 0, none⟩, cp, some ⟨bw, 0, none⟩, cw⟩ from
      ⟨(P6s.out.grown G5 (by omega)).mono (by omega), (M6s.out.grown G5 (by omega)).mono (by omega), (Q6s.out.grown G5 (by omega)).mono (by omega), (A6s.out.grown G5 (by omega)).mono (by omega),
        ApartN.lt (by omega), ApartN.lt (by omega), ApartN.lt (by omega), ApartN.lt (by omega), ApartN.lt (by omega), ApartN.lt (by omega), ⟨.inr ⟨_, rfl⟩, .inr ⟨_, rfl⟩, .inr ⟨_, rfl⟩, .inr ⟨_, rfl⟩, hcf, hcm, hcp, hcw⟩⟩)
    have BE := Lib.hid (Below.setCell (Below.setCell (Below.setCell (Below.setCell (Below.setCell (Below.setCell (Below.setCell (Below.setCell d6s.out (p := ⟨w.heap.size + 1, 0, none⟩) (by simp) (.int .i64 b.season)) (p := ⟨w.heap.size + 1, 1, none⟩) (by simp) (.int .i64 b.supply)) (p := ⟨w.heap.size + 1, 2, none⟩) (by simp) (.int .i64 b.burnt)) (p := ⟨w.heap.size + 1, 3, none⟩) (by simp) (.int .i64 b.pot)) (p := ⟨w.heap.size + 1, 4, none⟩) (by simp) (.slice (some ⟨bf, 0, none⟩) b.folk.length cf)) (p := ⟨w.heap.size + 1, 5, none⟩) (by simp) (.slice (some ⟨bm, 0, none⟩) b.mills.length cm)) (p := ⟨w.heap.size + 1, 6, none⟩) (by simp) (.slice (some ⟨bp, 0, none⟩) b.parts.length cp)) (p := ⟨w.heap.size + 1, 7, none⟩) (by simp) (.slice (some ⟨bw, 0, none⟩) b.waits.length cw))
    clear G5
    go_wp2
    exact bodyPost_ret (v := .agg #[.int .i64 b.season, .int .i64 b.supply, .int .i64 b.burnt, .int .i64 b.pot, .slice (some ⟨bf, 0, none⟩) b.folk.length cf, .slice (some ⟨bm, 0, none⟩) b.mills.length cm, .slice (some ⟨bp, 0, none⟩) b.parts.length cp, .slice (some ⟨bw, 0, none⟩) b.waits.length cw]) (by simp [results, Tryz.results116, go_sem, r0, r1, r2, r3, r4, r5, r6, r7]) rfl ⟨_, rfl, HE.out, BE.out, ⟨_, rfl⟩, ⟨_, rfl⟩, ⟨_, rfl⟩, ⟨_, rfl⟩⟩

theorem l7Copy_any {w : World} {b : Bok} {s : Spots} (h : BookAt w b s) (hr : Roots b s) (hl : BLen b) :
    Calls Tryz.prog 116 #[.agg #[.int .i64 b.season, .int .i64 b.supply, .int .i64 b.burnt, .int .i64 b.pot, .slice s.fa b.folk.length s.fc, .slice s.ma b.mills.length s.mc, .slice s.pa b.parts.length s.pc, .slice s.wa b.waits.length s.wc]] w (ToB b w) :=
  (l7Copy_sol h hr hl).mono fun _ _ ⟨s, h1, h2, h3, _⟩ => ⟨s, h1, h2, h3⟩
end Go.Proofs.YtlnnchgaloejlaaGreat
namespace Go.Proofs.YtlnnchgaloejlaaGreat
open Go.ChangeShapes Go.WideShapes Go.ChangeAt Go.RowKit

theorem OwnP.apart {w w' : World} {B x : Nat} {a : Option Addr} {ps : List Pur} (h : OwnP w B a ps) (hg : w.grownBy w' (some x)) (hne : ∀ b, a = some ⟨b, 0, none⟩ → 0 < ps.length → b ≠ x) : OwnP w' B a ps := by
  by_cases h0 : ps = []
  · subst h0; exact ⟨Lies.nil _ _, .inl rfl⟩
  rcases h.2 with e | ⟨b, rfl, h1, h2, hm⟩
  · exact absurd e h0
  · have hn : some b ≠ some x := by intro e; injection e with e; exact hne b rfl (length_ne h0) e
    refine ⟨?_, .inr ⟨b, rfl, h1, Nat.lt_of_lt_of_le h2 hg.size, hm.grown h2 hg hn⟩⟩
    intro k v hk
    obtain ⟨b', off, e, hc⟩ := h.1 k v hk
    injection e with e; injection e with e1 e2; subst e1; subst e2
    exact ⟨b, 0, rfl, by rw [grown_keeps hg h2 hn]; exact hc⟩
theorem OwnB.apart {w w' : World} {B x : Nat} {b : Bok} {s : Spots} (h : OwnB w B b s) (hg : w.grownBy w' (some x)) (hn : NotIn b s x) : OwnB w' B b s :=
  ⟨h.folk.apart hg hn.folk, h.mills.apart hg (fun y e hy => hn.mills y e (length_ne hy)), h.parts.apart hg (fun y e hy => hn.parts y e (length_ne hy)), h.waits.apart hg (fun y e hy => hn.waits y e (length_ne hy)), h.fm, h.fp, h.fw, h.mp, h.mw, h.pw, h.rt⟩
theorem OwnB.mono {w : World} {B B' : Nat} {b : Bok} {s : Spots} (h : OwnB w B b s) (hB : B' ≤ B) : OwnB w B' b s :=
  ⟨h.folk.mono hB, h.mills.mono hB, h.parts.mono hB, h.waits.mono hB, h.fm, h.fp, h.fw, h.mp, h.mw, h.pw, h.rt⟩
/-- A book laid down in block R, cell by cell. -/
def putB (w : World) (R : Nat) (b : Bok) (s : Spots) : World := ((((((((w.setCell ⟨R, 0, none⟩ (.int .i64 b.season)).setCell ⟨R, 1, none⟩ (.int .i64 b.supply)).setCell ⟨R, 2, none⟩ (.int .i64 b.burnt)).setCell ⟨R, 3, none⟩ (.int .i64 b.pot)).setCell ⟨R, 4, none⟩ (.slice s.fa b.folk.length s.fc)).setCell ⟨R, 5, none⟩ (.slice s.ma b.mills.length s.mc)).setCell ⟨R, 6, none⟩ (.slice s.pa b.parts.length s.pc)).setCell ⟨R, 7, none⟩ (.slice s.wa b.waits.length s.wc))
theorem putB_grown (w : World) (R : Nat) (b : Bok) (s : Spots) : w.grownBy (putB w R b s) (some R) := (gset (o := 7) (gset (o := 6) (gset (o := 5) (gset (o := 4) (gset (o := 3) (gset (o := 2) (gset (o := 1) (gset (o := 0) (gid w (some R)) (.int .i64 b.season)) (.int .i64 b.supply)) (.int .i64 b.burnt)) (.int .i64 b.pot)) (.slice s.fa b.folk.length s.fc)) (.slice s.ma b.mills.length s.mc)) (.slice s.pa b.parts.length s.pc)) (.slice s.wa b.waits.length s.wc))
theorem putB_below {w0 w : World} {B R : Nat} (h : Below B w0 w) (hR : B ≤ R) (b : Bok) (s : Spots) : Below B w0 (putB w R b s) := (Below.setCell (Below.setCell (Below.setCell (Below.setCell (Below.setCell (Below.setCell (Below.setCell (Below.setCell h (p := ⟨R, 0, none⟩) hR (.int .i64 b.season)) (p := ⟨R, 1, none⟩) hR (.int .i64 b.supply)) (p := ⟨R, 2, none⟩) hR (.int .i64 b.burnt)) (p := ⟨R, 3, none⟩) hR (.int .i64 b.pot)) (p := ⟨R, 4, none⟩) hR (.slice s.fa b.folk.length s.fc)) (p := ⟨R, 5, none⟩) hR (.slice s.ma b.mills.length s.mc)) (p := ⟨R, 6, none⟩) hR (.slice s.pa b.parts.length s.pc)) (p := ⟨R, 7, none⟩) hR (.slice s.wa b.waits.length s.wc))
/-- A book of the call's own, and a code. -/
def ResK (r : Bok) (c : Int) (B : Nat) (w : World) (e : Ending) (w' : World) : Prop :=
  ∃ s : Spots, e = .returned (.tuple #[.agg #[.int .i64 r.season, .int .i64 r.supply, .int .i64 r.burnt, .int .i64 r.pot, .slice s.fa r.folk.length s.fc, .slice s.ma r.mills.length s.mc, .slice s.pa r.parts.length s.pc, .slice s.wa r.waits.length s.wc], .int .i64 c]) ∧ OwnB w' B r s ∧ Below w.heap.size w w'
noncomputable def doneB (b o : Bok) : Bok := if bookB o = true then o else b
noncomputable def doneC (o : Bok) : Int := if bookB o = true then 0 else 6

set_option maxHeartbeats 8000000 in
set_option maxRecDepth 100000 in
theorem l8Done_any {w : World} {B : Nat} {b o : Bok} {s t : Spots} (h : BookAt w b s) (hr : Roots b s) (hl : BLen b) (ho : OwnB w B o t) (hlo : BLen o) (hzo : BSized o) (hB : B ≤ w.heap.size) :
    Calls Tryz.prog 117 #[.agg #[.int .i64 b.season, .int .i64 b.supply, .int .i64 b.burnt, .int .i64 b.pot, .slice s.fa b.folk.length s.fc, .slice s.ma b.mills.length s.mc, .slice s.pa b.parts.length s.pc, .slice s.wa b.waits.length s.wc], .agg #[.int .i64 o.season, .int .i64 o.supply, .int .i64 o.burnt, .int .i64 o.pot, .slice t.fa o.folk.length t.fc, .slice t.ma o.mills.length t.mc, .slice t.pa o.parts.length t.pc, .slice t.wa o.waits.length t.wc]] w (ResK (doneB b o) (doneC o) B w) := by
  have HR := Lib.hid hr
  have HL := Lib.hid hl
  have HLO := Lib.hid hlo
  have HZO := Lib.hid hzo
  have OLD := Lib.hid ho.at.bold
  have X0 := Lib.hid (BoxB.new h 29)
  have O0 := Lib.hid (ho.below (below_new w (.cells #[.int .i64 b.season, .int .i64 b.supply, .int .i64 b.burnt, .int .i64 b.pot, .slice s.fa b.folk.length s.fc, .slice s.ma b.mills.length s.mc, .slice s.pa b.parts.length s.pc, .slice s.wa b.waits.length s.wc] 29)))
  have D0 := Lib.hid (below_new w (.cells #[.int .i64 b.season, .int .i64 b.supply, .int .i64 b.burnt, .int .i64 b.pot, .slice s.fa b.folk.length s.fc, .slice s.ma b.mills.length s.mc, .slice s.pa b.parts.length s.pc, .slice s.wa b.waits.length s.wc] 29))
  obtain ⟨W0, hW0⟩ : ∃ W, w.alloc (.cells #[.int .i64 b.season, .int .i64 b.supply, .int .i64 b.burnt, .int .i64 b.pot, .slice s.fa b.folk.length s.fc, .slice s.ma b.mills.length s.mc, .slice s.pa b.parts.length s.pc, .slice s.wa b.waits.length s.wc] 29) = W := ⟨_, rfl⟩
  have hs0 : W0.heap.size = w.heap.size + 1 := by rw [← hW0]; simp
  rw [hW0] at X0 O0 D0
  have X1 := Lib.hid (X0.out.below (below_new W0 (.cells #[.int .i64 o.season, .int .i64 o.supply, .int .i64 o.burnt, .int .i64 o.pot, .slice t.fa o.folk.length t.fc, .slice t.ma o.mills.length t.mc, .slice t.pa o.parts.length t.pc, .slice t.wa o.waits.length t.wc] 29)))
  have Y1 := Lib.hid (BoxB.new O0.out.at 29)
  have O1 := Lib.hid (O0.out.below (below_new W0 (.cells #[.int .i64 o.season, .int .i64 o.supply, .int .i64 o.burnt, .int .i64 o.pot, .slice t.fa o.folk.length t.fc, .slice t.ma o.mills.length t.mc, .slice t.pa o.parts.length t.pc, .slice t.wa o.waits.length t.wc] 29)))
  have D1 := Lib.hid (below_trans D0.out (below_new W0 (.cells #[.int .i64 o.season, .int .i64 o.supply, .int .i64 o.burnt, .int .i64 o.pot, .slice t.fa o.folk.length t.fc, .slice t.ma o.mills.length t.mc, .slice t.pa o.parts.length t.pc, .slice t.wa o.waits.length t.wc] 29)))
  obtain ⟨W1, hW1⟩ : ∃ W, W0.alloc (.cells #[.int .i64 o.season, .int .i64 o.supply, .int .i64 o.burnt, .int .i64 o.pot, .slice t.fa o.folk.length t.fc, .slice t.ma o.mills.length t.mc, .slice t.pa o.parts.length t.pc, .slice t.wa o.waits.length t.wc] 29) = W := ⟨_, rfl⟩
  have hs1 : W1.heap.size = w.heap.size + 1 + 1 := by rw [← hW1]; simp [hs0]
  rw [hW1] at X1 Y1 O1 D1
  rw [hs0] at Y1
  have bz := below_new W1 (.cells #[.int .i64 0, .int .i64 0, .int .i64 0, .int .i64 0, .slice none 0 0, .slice none 0 0, .slice none 0 0, .slice none 0 0] 29)
  have R2 := Lib.hid (OutV.new W1 [.int .i64 0, .int .i64 0, .int .i64 0, .int .i64 0, .slice none 0 0, .slice none 0 0, .slice none 0 0, .slice none 0 0] 29)
  obtain ⟨W2, hW2⟩ : ∃ W, W1.alloc (.cells #[.int .i64 0, .int .i64 0, .int .i64 0, .int .i64 0, .slice none 0 0, .slice none 0 0, .slice none 0 0, .slice none 0 0] 29) = W := ⟨_, rfl⟩
  rw [show W1.alloc (.cells ([.int .i64 0, .int .i64 0, .int .i64 0, .int .i64 0, .slice none 0 0, .slice none 0 0, .slice none 0 0, .slice none 0 0] : List Value).toArray 29) = W2 from hW2, hs1] at R2
  rw [hW2] at bz
  have X2 := Lib.hid (X1.out.below bz)
  have Y2 := Lib.hid (Y1.out.below bz)
  have O2 := Lib.hid (O1.out.below bz)
  have D2 := Lib.hid (below_trans D1.out bz)
  clear bz X0 O0 D0 X1 Y1 O1 D1 h hr hl ho hlo hzo
  have y0 := Y2.out.c0
  have y1 := Y2.out.c1
  have y2 := Y2.out.c2
  have y3 := Y2.out.c3
  have y4 := Y2.out.c4
  have y5 := Y2.out.c5
  have y6 := Y2.out.c6
  have y7 := Y2.out.c7
  go_enter Tryz.func117, Tryz.ntmps117
  go_wp2_with fail
  refine (sBookOk_any (s := t) Y2.out.book HLO.out HZO.out).mono ?_
  rintro e w3 ⟨rfl, hb3⟩
  have X3 := Lib.hid (X2.out.below hb3)
  have Y3 := Lib.hid (Y2.out.below hb3)
  have O3 := Lib.hid (O2.out.below hb3)
  have R3 := Lib.hid (R2.out.below hb3)
  have D3 := Lib.hid (below_trans D2.out hb3)
  clear hb3 X2 Y2 O2 R2 D2 y0 y1 y2 y3 y4 y5 y6 y7
  cases hk : bookB o
  · have HN := Lib.hid (show doneB b o = b ∧ doneC o = 6 from ⟨by simp [doneB, hk], by simp [doneC, hk]⟩)
    have x0 := X3.out.c0
    have x1 := X3.out.c1
    have x2 := X3.out.c2
    have x3 := X3.out.c3
    have x4 := X3.out.c4
    have x5 := X3.out.c5
    have x6 := X3.out.c6
    have x7 := X3.out.c7
    go_wp2_with fail
    refine (l7Copy_any (s := s) X3.out.book HR.out HL.out).mono ?_
    rintro e w4 ⟨s4, rfl, ho4, hb4⟩
    have R4 := Lib.hid (R3.out.below hb4)
    have hlt := R3.out.lt
    have D4 := Lib.hid (below_trans D3.out hb4)
    have HE := Lib.hid (show ResK (doneB b o) (doneC o) B w (.returned (.tuple #[.agg #[.int .i64 b.season, .int .i64 b.supply, .int .i64 b.burnt, .int .i64 b.pot, .slice s4.fa b.folk.length s4.fc, .slice s4.ma b.mills.length s4.mc, .slice s4.pa b.parts.length s4.pc, .slice s4.wa b.waits.length s4.wc], .int .i64 6])) (putB w4 (w.heap.size + 1 + 1) b s4) from by
      rw [HN.out.1, HN.out.2]
      exact ⟨s4, rfl, (ho4.grown (putB_grown _ _ _ _) hlt).mono (by omega), putB_below D4.out (by omega) _ _⟩)
    unfold putB at HE
    clear ho4 hb4
    have r0 := R4.out.has 0 _ rfl
    have r1 := R4.out.has 1 _ rfl
    have r2 := R4.out.has 2 _ rfl
    have r3 := R4.out.has 3 _ rfl
    have r4 := R4.out.has 4 _ rfl
    have r5 := R4.out.has 5 _ rfl
    have r6 := R4.out.has 6 _ rfl
    have r7 := R4.out.has 7 _ rfl
    have rf := R4.out.free
    go_wp2
    exact bodyPost_ret (v := .tuple #[.agg #[.int .i64 b.season, .int .i64 b.supply, .int .i64 b.burnt, .int .i64 b.pot, .slice s4.fa b.folk.length s4.fc, .slice s4.ma b.mills.length s4.mc, .slice s4.pa b.parts.length s4.pc, .slice s4.wa b.waits.length s4.wc], .int .i64 6]) (by simp [results, Tryz.results117, go_sem, r0, r1, r2, r3, r4, r5, r6, r7]) rfl HE.out
  · have HN := Lib.hid (show doneB b o = o ∧ doneC o = 0 from ⟨by simp [doneB, hk], by simp [doneC, hk]⟩)
    have HE := Lib.hid (show ResK (doneB b o) (doneC o) B w (.returned (.tuple #[.agg #[.int .i64 o.season, .int .i64 o.supply, .int .i64 o.burnt, .int .i64 o.pot, .slice t.fa o.folk.length t.fc, .slice t.ma o.mills.length t.mc, .slice t.pa o.parts.length t.pc, .slice t.wa o.waits.length t.wc], .int .i64 0])) (putB w3 (w.heap.size + 1 + 1) o t) from by
      rw [HN.out.1, HN.out.2]
      exact ⟨t, rfl, O3.out.apart (putB_grown _ _ _ _) (OLD.out.notIn (by omega)), putB_below D3.out (by omega) _ _⟩)
    unfold putB at HE
    have y0 := Y3.out.c0
    have y1 := Y3.out.c1
    have y2 := Y3.out.c2
    have y3 := Y3.out.c3
    have y4 := Y3.out.c4
    have y5 := Y3.out.c5
    have y6 := Y3.out.c6
    have y7 := Y3.out.c7
    have r0 := R3.out.has 0 _ rfl
    have r1 := R3.out.has 1 _ rfl
    have r2 := R3.out.has 2 _ rfl
    have r3 := R3.out.has 3 _ rfl
    have r4 := R3.out.has 4 _ rfl
    have r5 := R3.out.has 5 _ rfl
    have r6 := R3.out.has 6 _ rfl
    have r7 := R3.out.has 7 _ rfl
    have rf := R3.out.free
    go_wp2
    exact bodyPost_ret (v := .tuple #[.agg #[.int .i64 o.season, .int .i64 o.supply, .int .i64 o.burnt, .int .i64 o.pot, .slice t.fa o.folk.length t.fc, .slice t.ma o.mills.length t.mc, .slice t.pa o.parts.length t.pc, .slice t.wa o.waits.length t.wc], .int .i64 0]) (by simp [results, Tryz.results117, go_sem, r0, r1, r2, r3, r4, r5, r6, r7]) rfl HE.out
end Go.Proofs.YtlnnchgaloejlaaGreat
