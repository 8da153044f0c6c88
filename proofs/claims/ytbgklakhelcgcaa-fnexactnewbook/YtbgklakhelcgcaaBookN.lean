/-
  What chapter 7's NewBook answers, the model's and the program's, at every list of purses.
-/
import Derived.Test.YtbgklakhelcgcaaBookM
import Derived.Test.YtbgklakhelcgcaaBookT
import Derived.Test.YtbgklakhelcgcaaFolkI
import Derived.Test.YtbgklakhelcgcaaPay
namespace Go.Proofs.Ytbgklakhelcgcaa
open Go.ChangeShapes Go.WideShapes Go.ChangeAt Go.RowKit

/-- Is there a new book of them? -/
def newB (ps : List Pur) : Bool := inB 0 1000000 (freeInV ps)
def bok0 : Bok := ⟨0, 0, 0, 0, [], [], [], []⟩
/-- The new book. -/
def bokOf (ps : List Pur) (v : Int) : Bok := ⟨0, v, 0, 0, ps, [], [], []⟩
def newL (ps : List Pur) : Bok := if newB ps = true then bokOf ps (freeInV ps) else bok0
theorem newL_yes {ps : List Pur} (h : newB ps = true) : newL ps = bokOf ps (freeInV ps) := by simp [newL, h]
theorem newL_no {ps : List Pur} (h : newB ps = false) : newL ps = bok0 := by simp [newL, h]
theorem rises_nil : risesB [] = true := by decide
theorem mills_nil : millsB [] = true := mills_yes (by simp) (MRight.zero _) rises_nil
theorem parts_nil : partsB [] = true := parts_yes (by simp) (PUp.zero _)
theorem waits_nil : waitsB [] = true := waits_yes (by simp) (WUp.zero _)
theorem new_book (ps : List Pur) : bookB (bokOf ps (freeInV ps)) = newB ps := by
  cases hf : folkB ps
  · rw [book_l (lists_f (b := bokOf ps (freeInV ps)) hf)]
    have h1 : freeInV ps = -1 := by simp [freeInV, hf]
    rw [newB, h1]; decide
  · have h1 : freeInV ps = sumP ps ps.length := by simp [freeInV, hf]
    cases hn : newB ps
    · exact book_l (lists_u (b := bokOf ps (freeInV ps)) hn)
    · refine book_yes (lists_yes (b := bokOf ps (freeInV ps)) hf mills_nil parts_nil waits_nil (show inB 0 1000 0 = true by decide) hn (show inB 0 1000000 0 = true by decide) (show inB 0 1000000 0 = true by decide)) (there_yes (KnowsP.zero _) (KnowsW.zero _) (HeldM.zero _)) ?_
      simp [totalV, bokOf, h1, sumM, sumA]
theorem ownB_nil (w : World) (B : Nat) (s : Spots) : OwnB w B bok0 s :=
  ⟨⟨Lies.nil _ _, .inl rfl⟩, ⟨Lies.nil _ _, .inl rfl⟩, ⟨Lies.nil _ _, .inl rfl⟩, ⟨Lies.nil _ _, .inl rfl⟩, ApartN.none1, ApartN.none1, ApartN.none1, ApartN.none1, ApartN.none1, ApartN.none1⟩
theorem ownB_folk {w : World} {B : Nat} {ps : List Pur} {v : Int} {s : Spots} (h : OwnP w B s.fa ps) : OwnB w B (bokOf ps v) s :=
  ⟨h, ⟨Lies.nil _ _, .inl rfl⟩, ⟨Lies.nil _ _, .inl rfl⟩, ⟨Lies.nil _ _, .inl rfl⟩, ApartN.none2, ApartN.none2, ApartN.none2, ApartN.none1, ApartN.none1, ApartN.none1⟩
theorem bookAt_folk {w : World} {ps : List Pur} {v : Int} {s : Spots} (h : Purs w s.fa ps) : BookAt w (bokOf ps v) s := ⟨h, Lies.nil _ _, Lies.nil _ _, Lies.nil _ _⟩
theorem bokOf_len {ps : List Pur} (v : Int) (h : ps.length ≤ 1048576) : BLen (bokOf ps v) := ⟨h, Nat.zero_le _, Nat.zero_le _, Nat.zero_le _⟩
theorem bokOf_sized {ps : List Pur} (v : Int) (h : Sized (pnames ps)) : BSized (bokOf ps v) :=
  ⟨h, fun k => by simp [bokOf, mnames, sat], fun k hk => by simp [bokOf] at hk, fun k hk => by simp [bokOf] at hk⟩
/-- A new book comes back, or an empty one, and a word. -/
def NewRes (nb : Bok) (ok : Bool) (w : World) (e : Ending) (w' : World) : Prop :=
  ∃ s : Spots, e = .returned (.tuple #[.agg #[.int .i64 nb.season, .int .i64 nb.supply, .int .i64 nb.burnt, .int .i64 nb.pot, .slice s.fa nb.folk.length s.fc, .slice s.ma nb.mills.length s.mc, .slice s.pa nb.parts.length s.pc, .slice s.wa nb.waits.length s.wc], .bool ok]) ∧ OwnB w' w.heap.size nb s ∧ Below w.heap.size w w'

set_option maxHeartbeats 4000000 in
set_option maxRecDepth 100000 in
theorem iNewBook_any {w : World} {a : Option Addr} {ps : List Pur} (cap : Nat) (h : Purs w a ps) (hl : ps.length ≤ 1048576) (hs : Sized (pnames ps)) :
    Calls Try.prog 7 #[.slice a ps.length cap] w (NewRes (newL ps) (newB ps) w) := by
  obtain ⟨W, hW⟩ : ∃ W, w.alloc (.cells #[.int .i64 0, .int .i64 0, .int .i64 0, .int .i64 0, .slice none 0 0, .slice none 0 0, .slice none 0 0, .slice none 0 0] 29) = W := ⟨_, rfl⟩
  have R0 := Lib.hid (OutV.new w [.int .i64 0, .int .i64 0, .int .i64 0, .int .i64 0, .slice none 0 0, .slice none 0 0, .slice none 0 0, .slice none 0 0] 29)
  have B0 := Lib.hid (below_new w (.cells #[.int .i64 0, .int .i64 0, .int .i64 0, .int .i64 0, .slice none 0 0, .slice none 0 0, .slice none 0 0, .slice none 0 0] 29))
  rw [show w.alloc (.cells ([.int .i64 0, .int .i64 0, .int .i64 0, .int .i64 0, .slice none 0 0, .slice none 0 0, .slice none 0 0, .slice none 0 0] : List Value).toArray 29) = W from hW] at R0
  rw [hW] at B0
  have H := Lib.hid (h.below B0.out)
  have HS := Lib.hid hs
  have HB : Hid (newB ps = inB 0 1000000 (freeInV ps)) := rfl
  clear h hs
  go_enter Try.func7, Try.ntmps7
  go_wp2_with fail
  refine (iFreeIn_any _ H.out hl HS.out).mono ?_
  rintro e w1 ⟨rfl, hb1⟩
  have R1 := Lib.hid (R0.out.below hb1)
  have B1 := Lib.hid (below_trans B0.out hb1)
  have H1 := Lib.hid (H.out.below hb1)
  clear hb1 R0 B0 H
  have r0 := R1.out.has 0 _ rfl
  have r1 := R1.out.has 1 _ rfl
  have r2 := R1.out.has 2 _ rfl
  have r3 := R1.out.has 3 _ rfl
  have r4 := R1.out.has 4 _ rfl
  have r5 := R1.out.has 5 _ rfl
  have r6 := R1.out.has 6 _ rfl
  have r7 := R1.out.has 7 _ rfl
  have rf := R1.out.free
  have rlt := R1.out.lt
  obtain ⟨fv, hfv⟩ : ∃ v, freeInV ps = v := ⟨_, rfl⟩
  rw [hfv] at HB
  have HV := Lib.hid hfv
  rw [hfv]
  clear hfv
  go_wp2_with fail
  refine (iAmountOk_any _ _).mono ?_
  rintro e w2 ⟨rfl, rfl⟩
  cases hn : inB 0 1000000 fv
  · have HN := Lib.hid (show NewRes (newL ps) (newB ps) w (.returned (.tuple #[.agg #[.int .i64 0, .int .i64 0, .int .i64 0, .int .i64 0, .slice none 0 0, .slice none 0 0, .slice none 0 0, .slice none 0 0], .bool false])) ((((((((w1.setCell ⟨w.heap.size, 0, none⟩ (.int .i64 0)).setCell ⟨w.heap.size, 1, none⟩ (.int .i64 0)).setCell ⟨w.heap.size, 2, none⟩ (.int .i64 0)).setCell ⟨w.heap.size, 3, none⟩ (.int .i64 0)).setCell ⟨w.heap.size, 4, none⟩ (.slice none 0 0)).setCell ⟨w.heap.size, 5, none⟩ (.slice none 0 0)).setCell ⟨w.heap.size, 6, none⟩ (.slice none 0 0)).setCell ⟨w.heap.size, 7, none⟩ (.slice none 0 0)) from by
      rw [newL_no (HB.out.trans hn), HB.out, hn]
      exact ⟨⟨none, 0, none, 0, none, 0, none, 0⟩, rfl, ownB_nil _ _ _, (Below.setCell (Below.setCell (Below.setCell (Below.setCell (Below.setCell (Below.setCell (Below.setCell (Below.setCell B1.out (p := ⟨w.heap.size, 0, none⟩) (Nat.le_refl _) (.int .i64 0)) (p := ⟨w.heap.size, 1, none⟩) (Nat.le_refl _) (.int .i64 0)) (p := ⟨w.heap.size, 2, none⟩) (Nat.le_refl _) (.int .i64 0)) (p := ⟨w.heap.size, 3, none⟩) (Nat.le_refl _) (.int .i64 0)) (p := ⟨w.heap.size, 4, none⟩) (Nat.le_refl _) (.slice none 0 0)) (p := ⟨w.heap.size, 5, none⟩) (Nat.le_refl _) (.slice none 0 0)) (p := ⟨w.heap.size, 6, none⟩) (Nat.le_refl _) (.slice none 0 0)) (p := ⟨w.heap.size, 7, none⟩) (Nat.le_refl _) (.slice none 0 0))⟩)
    go_wp2
    exact bodyPost_ret (v := .tuple #[.agg #[.int .i64 0, .int .i64 0, .int .i64 0, .int .i64 0, .slice none 0 0, .slice none 0 0, .slice none 0 0, .slice none 0 0], .bool false]) (by simp [results, Try.results7, go_sem, r0, r1, r2, r3, r4, r5, r6, r7]) rfl HN.out
  have hrun := copied_any cap H1.out hl
  go_wp2_with fail
  refine hrun.mono ?_
  rintro e w2 ⟨rfl, hw2⟩
  have hb2 : Below w1.heap.size w1 w2 := by rw [hw2]; exact below_new _ _
  have hpl : Purs w2 (some ⟨w1.heap.size, 0, none⟩) ps := by rw [hw2]; exact lies_new w1 (pcells ps) 44
  have hfr : ∀ o, w2.frozen? ⟨w1.heap.size, o, none⟩ = false := by rw [hw2]; exact free_new _ _ _
  have hlt2 : w1.heap.size < w2.heap.size := by rw [hw2]; simp
  have OP := Lib.hid (show OwnP w2 (w.heap.size + 1) (some ⟨w1.heap.size, 0, none⟩) ps from ⟨hpl, .inr ⟨_, rfl, rlt, hlt2, mine_of_lies hpl (pcells_length ps) hfr⟩⟩)
  have R2 := Lib.hid (R1.out.below hb2)
  have B2 := Lib.hid (below_trans B1.out hb2)
  clear hw2 hb2 hpl hfr R1 B1 r0 r1 r2 r3 r4 r5 r6 r7 rf hrun
  have r0 := R2.out.has 0 _ rfl
  have r1 := R2.out.has 1 _ rfl
  have r2 := R2.out.has 2 _ rfl
  have r3 := R2.out.has 3 _ rfl
  have r4 := R2.out.has 4 _ rfl
  have r5 := R2.out.has 5 _ rfl
  have r6 := R2.out.has 6 _ rfl
  have r7 := R2.out.has 7 _ rfl
  have rf := R2.out.free
  have G := (gset (o := 7) (gset (o := 6) (gset (o := 5) (gset (o := 4) (gset (o := 3) (gset (o := 2) (gset (o := 1) (gset (o := 0) (gid w2 (some w.heap.size)) (.int .i64 0)) (.int .i64 fv)) (.int .i64 0)) (.int .i64 0)) (.slice (some ⟨w1.heap.size, 0, none⟩) ps.length ps.length)) (.slice none 0 0)) (.slice none 0 0)) (.slice none 0 0))
  have HN := Lib.hid (show NewRes (newL ps) (newB ps) w (.returned (.tuple #[.agg #[.int .i64 0, .int .i64 fv, .int .i64 0, .int .i64 0, .slice (some ⟨w1.heap.size, 0, none⟩) ps.length ps.length, .slice none 0 0, .slice none 0 0, .slice none 0 0], .bool true])) ((((((((w2.setCell ⟨w.heap.size, 0, none⟩ (.int .i64 0)).setCell ⟨w.heap.size, 1, none⟩ (.int .i64 fv)).setCell ⟨w.heap.size, 2, none⟩ (.int .i64 0)).setCell ⟨w.heap.size, 3, none⟩ (.int .i64 0)).setCell ⟨w.heap.size, 4, none⟩ (.slice (some ⟨w1.heap.size, 0, none⟩) ps.length ps.length)).setCell ⟨w.heap.size, 5, none⟩ (.slice none 0 0)).setCell ⟨w.heap.size, 6, none⟩ (.slice none 0 0)).setCell ⟨w.heap.size, 7, none⟩ (.slice none 0 0)) from by
    rw [newL_yes (HB.out.trans hn), HB.out, hn, HV.out]
    exact ⟨⟨some ⟨w1.heap.size, 0, none⟩, ps.length, none, 0, none, 0, none, 0⟩, rfl, ownB_folk ((OP.out.grown G (by omega)).mono (by omega)), (Below.setCell (Below.setCell (Below.setCell (Below.setCell (Below.setCell (Below.setCell (Below.setCell (Below.setCell B2.out (p := ⟨w.heap.size, 0, none⟩) (Nat.le_refl _) (.int .i64 0)) (p := ⟨w.heap.size, 1, none⟩) (Nat.le_refl _) (.int .i64 fv)) (p := ⟨w.heap.size, 2, none⟩) (Nat.le_refl _) (.int .i64 0)) (p := ⟨w.heap.size, 3, none⟩) (Nat.le_refl _) (.int .i64 0)) (p := ⟨w.heap.size, 4, none⟩) (Nat.le_refl _) (.slice (some ⟨w1.heap.size, 0, none⟩) ps.length ps.length)) (p := ⟨w.heap.size, 5, none⟩) (Nat.le_refl _) (.slice none 0 0)) (p := ⟨w.heap.size, 6, none⟩) (Nat.le_refl _) (.slice none 0 0)) (p := ⟨w.heap.size, 7, none⟩) (Nat.le_refl _) (.slice none 0 0))⟩)
  clear G
  go_wp2
  exact bodyPost_ret (v := .tuple #[.agg #[.int .i64 0, .int .i64 fv, .int .i64 0, .int .i64 0, .slice (some ⟨w1.heap.size, 0, none⟩) ps.length ps.length, .slice none 0 0, .slice none 0 0, .slice none 0 0], .bool true]) (by simp [results, Try.results7, go_sem, r0, r1, r2, r3, r4, r5, r6, r7]) rfl HN.out

set_option maxHeartbeats 4000000 in
set_option maxRecDepth 100000 in
theorem sNewBook_any {w : World} {b off : Nat} {ps : List Pur} (cap : Nat) (h : Purs w (some ⟨b, off, none⟩) ps) (hl : ps.length ≤ 1048576) (hs : Sized (pnames ps)) :
    Calls Try.prog 5 #[.slice (some ⟨b, off, none⟩) ps.length cap] w (NewRes (newL ps) (newB ps) w) := by
  obtain ⟨W, hW⟩ : ∃ W, w.alloc (.cells #[.int .i64 0, .int .i64 0, .int .i64 0, .int .i64 0, .slice none 0 0, .slice none 0 0, .slice none 0 0, .slice none 0 0] 29) = W := ⟨_, rfl⟩
  have R0 := Lib.hid (OutV.new w [.int .i64 0, .int .i64 0, .int .i64 0, .int .i64 0, .slice none 0 0, .slice none 0 0, .slice none 0 0, .slice none 0 0] 29)
  have B0 := Lib.hid (below_new w (.cells #[.int .i64 0, .int .i64 0, .int .i64 0, .int .i64 0, .slice none 0 0, .slice none 0 0, .slice none 0 0, .slice none 0 0] 29))
  rw [show w.alloc (.cells ([.int .i64 0, .int .i64 0, .int .i64 0, .int .i64 0, .slice none 0 0, .slice none 0 0, .slice none 0 0, .slice none 0 0] : List Value).toArray 29) = W from hW] at R0
  rw [hW] at B0
  have H := Lib.hid (h.below B0.out)
  have HS := Lib.hid hs
  clear h hs
  go_enter Try.func5, Try.ntmps5
  go_wp2_with fail
  refine (l3Copy_any _ H.out hl).mono ?_
  rintro e w1 ⟨b1, cap1, rfl, hp1, hlo1, hlt1, hm1, hb1⟩
  have R1 := Lib.hid (R0.out.below hb1)
  have B1 := Lib.hid (below_trans B0.out hb1)
  have H1 := Lib.hid (H.out.below hb1)
  have hrlt := R0.out.lt
  have O1 := Lib.hid (show OwnP w1 (w.heap.size + 1) (some ⟨b1, 0, none⟩) ps from ⟨hp1, .inr ⟨_, rfl, by omega, hlt1, hm1⟩⟩)
  clear hb1 hp1 hm1 R0 B0 H
  go_wp2_with fail
  refine (sFreeIn_any _ H1.out hl HS.out).mono ?_
  rintro e w2 ⟨rfl, n2, hw2⟩
  have b2 : Below w1.heap.size w1 w2 := by rw [hw2]; exact below_draws (Below.refl _ _) n2
  have R2 := Lib.hid (R1.out.below b2)
  have B2 := Lib.hid (below_trans B1.out b2)
  have O2 := Lib.hid (O1.out.below b2)
  clear b2 hw2 R1 B1 H1 O1
  obtain ⟨fv, hfv⟩ : ∃ v, freeInV ps = v := ⟨_, rfl⟩
  have HK := Lib.hid (new_book ps)
  rw [hfv] at HK
  have HV := Lib.hid hfv
  rw [hfv]
  clear hfv
  go_wp2_with fail
  obtain ⟨V, hV⟩ : ∃ V, w2.alloc (.cells #[.int .i64 0, .int .i64 fv, .int .i64 0, .int .i64 0, .slice (some ⟨b1, 0, none⟩) ps.length cap1, .slice none 0 0, .slice none 0 0, .slice none 0 0] 29) = V := ⟨_, rfl⟩
  have V1 := Lib.hid (OutV.new w2 [.int .i64 0, .int .i64 fv, .int .i64 0, .int .i64 0, .slice (some ⟨b1, 0, none⟩) ps.length cap1, .slice none 0 0, .slice none 0 0, .slice none 0 0] 29)
  have bV := below_new w2 (.cells #[.int .i64 0, .int .i64 fv, .int .i64 0, .int .i64 0, .slice (some ⟨b1, 0, none⟩) ps.length cap1, .slice none 0 0, .slice none 0 0, .slice none 0 0] 29)
  rw [show w2.alloc (.cells ([.int .i64 0, .int .i64 fv, .int .i64 0, .int .i64 0, .slice (some ⟨b1, 0, none⟩) ps.length cap1, .slice none 0 0, .slice none 0 0, .slice none 0 0] : List Value).toArray 29) = V from hV] at V1
  rw [hV] at bV
  rw [hV]
  have R3 := Lib.hid (R2.out.below bV)
  have B3 := Lib.hid (below_trans B2.out bV)
  have O3 := Lib.hid (O2.out.below bV)
  clear bV R2 B2 O2 hV
  refine (sBookOk_any (b := bokOf ps fv) (s := ⟨some ⟨b1, 0, none⟩, cap1, none, 0, none, 0, none, 0⟩) (bookAt_folk O3.out.1) (bokOf_len fv hl) (bokOf_sized fv HS.out)).mono ?_
  rw [HK.out]
  rintro e w4 ⟨rfl, hb4⟩
  have R4 := Lib.hid (R3.out.below hb4)
  have B4 := Lib.hid (below_trans B3.out hb4)
  have O4 := Lib.hid (O3.out.below hb4)
  have V4 := Lib.hid (V1.out.below hb4)
  clear hb4 R3 B3 O3 V1
  have r0 := R4.out.has 0 _ rfl
  have r1 := R4.out.has 1 _ rfl
  have r2 := R4.out.has 2 _ rfl
  have r3 := R4.out.has 3 _ rfl
  have r4 := R4.out.has 4 _ rfl
  have r5 := R4.out.has 5 _ rfl
  have r6 := R4.out.has 6 _ rfl
  have r7 := R4.out.has 7 _ rfl
  have rf := R4.out.free
  cases hn : newB ps
  · have HN := Lib.hid (show NewRes (newL ps) (newB ps) w (.returned (.tuple #[.agg #[.int .i64 0, .int .i64 0, .int .i64 0, .int .i64 0, .slice none 0 0, .slice none 0 0, .slice none 0 0, .slice none 0 0], .bool false])) ((((((((w4.setCell ⟨w.heap.size, 0, none⟩ (.int .i64 0)).setCell ⟨w.heap.size, 1, none⟩ (.int .i64 0)).setCell ⟨w.heap.size, 2, none⟩ (.int .i64 0)).setCell ⟨w.heap.size, 3, none⟩ (.int .i64 0)).setCell ⟨w.heap.size, 4, none⟩ (.slice none 0 0)).setCell ⟨w.heap.size, 5, none⟩ (.slice none 0 0)).setCell ⟨w.heap.size, 6, none⟩ (.slice none 0 0)).setCell ⟨w.heap.size, 7, none⟩ (.slice none 0 0)) from by
      rw [newL_no hn, hn]
      exact ⟨⟨none, 0, none, 0, none, 0, none, 0⟩, rfl, ownB_nil _ _ _, (Below.setCell (Below.setCell (Below.setCell (Below.setCell (Below.setCell (Below.setCell (Below.setCell (Below.setCell B4.out (p := ⟨w.heap.size, 0, none⟩) (Nat.le_refl _) (.int .i64 0)) (p := ⟨w.heap.size, 1, none⟩) (Nat.le_refl _) (.int .i64 0)) (p := ⟨w.heap.size, 2, none⟩) (Nat.le_refl _) (.int .i64 0)) (p := ⟨w.heap.size, 3, none⟩) (Nat.le_refl _) (.int .i64 0)) (p := ⟨w.heap.size, 4, none⟩) (Nat.le_refl _) (.slice none 0 0)) (p := ⟨w.heap.size, 5, none⟩) (Nat.le_refl _) (.slice none 0 0)) (p := ⟨w.heap.size, 6, none⟩) (Nat.le_refl _) (.slice none 0 0)) (p := ⟨w.heap.size, 7, none⟩) (Nat.le_refl _) (.slice none 0 0))⟩)
    go_wp2
    exact bodyPost_ret (v := .tuple #[.agg #[.int .i64 0, .int .i64 0, .int .i64 0, .int .i64 0, .slice none 0 0, .slice none 0 0, .slice none 0 0, .slice none 0 0], .bool false]) (by simp [results, Try.results5, go_sem, r0, r1, r2, r3, r4, r5, r6, r7]) rfl HN.out
  have v0 := V4.out.has 0 _ rfl
  have v1 := V4.out.has 1 _ rfl
  have v2 := V4.out.has 2 _ rfl
  have v3 := V4.out.has 3 _ rfl
  have v4 := V4.out.has 4 _ rfl
  have v5 := V4.out.has 5 _ rfl
  have v6 := V4.out.has 6 _ rfl
  have v7 := V4.out.has 7 _ rfl
  have G := (gset (o := 7) (gset (o := 6) (gset (o := 5) (gset (o := 4) (gset (o := 3) (gset (o := 2) (gset (o := 1) (gset (o := 0) (gid w4 (some w.heap.size)) (.int .i64 0)) (.int .i64 fv)) (.int .i64 0)) (.int .i64 0)) (.slice (some ⟨b1, 0, none⟩) ps.length cap1)) (.slice none 0 0)) (.slice none 0 0)) (.slice none 0 0))
  have HN := Lib.hid (show NewRes (newL ps) (newB ps) w (.returned (.tuple #[.agg #[.int .i64 0, .int .i64 fv, .int .i64 0, .int .i64 0, .slice (some ⟨b1, 0, none⟩) ps.length cap1, .slice none 0 0, .slice none 0 0, .slice none 0 0], .bool true])) ((((((((w4.setCell ⟨w.heap.size, 0, none⟩ (.int .i64 0)).setCell ⟨w.heap.size, 1, none⟩ (.int .i64 fv)).setCell ⟨w.heap.size, 2, none⟩ (.int .i64 0)).setCell ⟨w.heap.size, 3, none⟩ (.int .i64 0)).setCell ⟨w.heap.size, 4, none⟩ (.slice (some ⟨b1, 0, none⟩) ps.length cap1)).setCell ⟨w.heap.size, 5, none⟩ (.slice none 0 0)).setCell ⟨w.heap.size, 6, none⟩ (.slice none 0 0)).setCell ⟨w.heap.size, 7, none⟩ (.slice none 0 0)) from by
    rw [newL_yes hn, hn, HV.out]
    exact ⟨⟨some ⟨b1, 0, none⟩, cap1, none, 0, none, 0, none, 0⟩, rfl, ownB_folk ((O4.out.grown G (by omega)).mono (by omega)), (Below.setCell (Below.setCell (Below.setCell (Below.setCell (Below.setCell (Below.setCell (Below.setCell (Below.setCell B4.out (p := ⟨w.heap.size, 0, none⟩) (Nat.le_refl _) (.int .i64 0)) (p := ⟨w.heap.size, 1, none⟩) (Nat.le_refl _) (.int .i64 fv)) (p := ⟨w.heap.size, 2, none⟩) (Nat.le_refl _) (.int .i64 0)) (p := ⟨w.heap.size, 3, none⟩) (Nat.le_refl _) (.int .i64 0)) (p := ⟨w.heap.size, 4, none⟩) (Nat.le_refl _) (.slice (some ⟨b1, 0, none⟩) ps.length cap1)) (p := ⟨w.heap.size, 5, none⟩) (Nat.le_refl _) (.slice none 0 0)) (p := ⟨w.heap.size, 6, none⟩) (Nat.le_refl _) (.slice none 0 0)) (p := ⟨w.heap.size, 7, none⟩) (Nat.le_refl _) (.slice none 0 0))⟩)
  clear G
  go_wp2
  exact bodyPost_ret (v := .tuple #[.agg #[.int .i64 0, .int .i64 fv, .int .i64 0, .int .i64 0, .slice (some ⟨b1, 0, none⟩) ps.length cap1, .slice none 0 0, .slice none 0 0, .slice none 0 0], .bool true]) (by simp [results, Try.results5, go_sem, r0, r1, r2, r3, r4, r5, r6, r7]) rfl HN.out
end Go.Proofs.Ytbgklakhelcgcaa
