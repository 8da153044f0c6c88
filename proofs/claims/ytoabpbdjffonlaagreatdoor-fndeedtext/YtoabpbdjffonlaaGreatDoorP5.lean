/-
  Texts joined: Draw8.
-/
import Derived.Test.YtoabpbdjffonlaaGreatDoorP3
import Derived.Test.YtoabpbdjffonlaaGreatDoorP4
import Derived.Deep.RegionHeld3
namespace Go.Proofs.YtoabpbdjffonlaaGreatDoor
open Go.ChangeShapes Go.WideShapes Go.ChangeAt Go.RowKit

/-- Its names are no longer than a machine's. -/
def DShort (d : Dee) : Prop := d.who.size ≤ maxLen ∧ d.mill.size ≤ maxLen ∧ d.to.size ≤ maxLen
def DrawnDe (C : Nat) (a : Option Addr) (len cap : Nat) (w : World) (e : Ending) (w' : World) : Prop :=
  ∃ d : Dee, DShort d ∧ e = .returned (.agg #[.int .i64 d.kind, .string d.who, .string d.mill, .string d.to, .int .i64 d.n]) ∧ Cur w' C a len cap ∧ w.grownBy w' (some C)
theorem empty_max : (⟨#[]⟩ : ByteArray).size ≤ 7 := by decide
/-- Its names are as short as those that are drawn, its number is a machine's. -/
def DTight (d : Dee) : Prop := d.who.size ≤ 7 ∧ d.mill.size ≤ 7 ∧ d.to.size ≤ 7 ∧ -9223372036854775808 ≤ d.n ∧ d.n ≤ 9223372036854775807
theorem DTight.short {d : Dee} (h : DTight d) : DShort d := ⟨seven_max h.1, seven_max h.2.1, seven_max h.2.2.1⟩
def DrawnDt (C : Nat) (a : Option Addr) (len cap : Nat) (w : World) (e : Ending) (w' : World) : Prop :=
  ∃ d : Dee, DTight d ∧ e = .returned (.agg #[.int .i64 d.kind, .string d.who, .string d.mill, .string d.to, .int .i64 d.n]) ∧ Cur w' C a len cap ∧ w.grownBy w' (some C)
/-- The deed is written into the result's block. -/
theorem end_deed {w W : World} {C : Nat} {a : Option Addr} {len cap : Nat} {B : Nat} (h : Way w C a len cap W) (hB : w.heap.size ≤ B) (k n : Int) {who mill to : ByteArray} (h1 : who.size ≤ 7) (h2 : mill.size ≤ 7) (h3 : to.size ≤ 7) (hn : -9223372036854775808 ≤ n ∧ n ≤ 9223372036854775807) :
    DrawnDt C a len cap w (.returned (.agg #[.int .i64 k, .string who, .string mill, .string to, .int .i64 n])) (((((W.setCell ⟨B, 0, none⟩ (.int .i64 k)).setCell ⟨B, 1, none⟩ (.string who)).setCell ⟨B, 2, none⟩ (.string mill)).setCell ⟨B, 3, none⟩ (.string to)).setCell ⟨B, 4, none⟩ (.int .i64 n)) := by
  have h5 := ((((h.set hB 0 (.int .i64 k)).set hB 1 (.string who)).set hB 2 (.string mill)).set hB 3 (.string to)).set hB 4 (.int .i64 n)
  exact ⟨⟨k, who, mill, to, n⟩, ⟨h1, h2, h3, hn⟩, rfl, h5.cur, h5.grown⟩
/-- Between the draws of a deed's fields: the part that was drawn lies in block P, the result's block is as it was made. -/
structure MidP (w : World) (C : Nat) (a : Option Addr) (len cap : Nat) (P : Nat) (p : Par) (W : World) : Prop where
  way : Way w C a len cap W
  q : OutV W P [.string p.who, .string p.mill, .int .i64 p.shares]
  r : OutV W (w.heap.size + 1) [.int .i64 0, .string ⟨#[]⟩, .string ⟨#[]⟩, .string ⟨#[]⟩, .int .i64 0]
  hP : w.heap.size + 1 < P
section
variable {w W W' : World} {C P : Nat} {a : Option Addr} {len cap : Nat} {p : Par}
theorem MidP.draw (h : MidP w C a len cap P p W) (hc : Cur W' C a len cap) (hg : W.grownBy W' (some C)) : MidP w C a len cap P p W' :=
  ⟨h.way.draw hc hg, h.q.keep hg (by have := h.hP; have := h.way.hC; omega), h.r.keep hg (by have := h.way.hC; omega), h.hP⟩
theorem MidP.drew (h : MidP w C a len cap P p W) : MidP w C a len cap P p W.drew :=
  ⟨h.way.below (below_draws (Below.refl _ _) 1), h.q.below (below_draws (Below.refl _ _) 1), h.r.below (below_draws (Below.refl _ _) 1), h.hP⟩
theorem cellsP (h : MidP w C a len cap P p W) : W.cell? ⟨P, 0, none⟩ = some (.string p.who) ∧ W.cell? ⟨P, 1, none⟩ = some (.string p.mill) ∧ W.cell? ⟨P, 2, none⟩ = some (.int .i64 p.shares) := ⟨h.q.has 0 _ rfl, h.q.has 1 _ rfl, h.q.has 2 _ rfl⟩
theorem cell_past {b B o j : Nat} {u : Value} (v : Value) (h : W.cell? ⟨b, o, none⟩ = some u) (hne : b ≠ B) : (W.setCell ⟨B, j, none⟩ v).cell? ⟨b, o, none⟩ = some u := by
  rw [World.cell?_setCell_other _ _ _ _ (by intro q; injection q with q; exact hne q.symm)]; exact h
theorem cellsS (h : MidP w C a len cap P p W) (v0 v1 v2 v3 v4 : Value) : (((((W.setCell ⟨w.heap.size + 1, 0, none⟩ v0).setCell ⟨w.heap.size + 1, 1, none⟩ v1).setCell ⟨w.heap.size + 1, 2, none⟩ v2).setCell ⟨w.heap.size + 1, 3, none⟩ v3).setCell ⟨w.heap.size + 1, 4, none⟩ v4).cell? ⟨P, 0, none⟩ = some (.string p.who) ∧ (((((W.setCell ⟨w.heap.size + 1, 0, none⟩ v0).setCell ⟨w.heap.size + 1, 1, none⟩ v1).setCell ⟨w.heap.size + 1, 2, none⟩ v2).setCell ⟨w.heap.size + 1, 3, none⟩ v3).setCell ⟨w.heap.size + 1, 4, none⟩ v4).cell? ⟨P, 1, none⟩ = some (.string p.mill) ∧ (((((W.setCell ⟨w.heap.size + 1, 0, none⟩ v0).setCell ⟨w.heap.size + 1, 1, none⟩ v1).setCell ⟨w.heap.size + 1, 2, none⟩ v2).setCell ⟨w.heap.size + 1, 3, none⟩ v3).setCell ⟨w.heap.size + 1, 4, none⟩ v4).cell? ⟨P, 2, none⟩ = some (.int .i64 p.shares) := by
  have hne : P ≠ w.heap.size + 1 := by have := h.hP; omega
  obtain ⟨h0, h1, h2⟩ := cellsP h
  exact ⟨cell_past _ (cell_past _ (cell_past _ (cell_past _ (cell_past _ h0 hne) hne) hne) hne) hne, cell_past _ (cell_past _ (cell_past _ (cell_past _ (cell_past _ h1 hne) hne) hne) hne) hne, cell_past _ (cell_past _ (cell_past _ (cell_past _ (cell_past _ h2 hne) hne) hne) hne) hne⟩
theorem sameA (h : MidP w C a len cap P p W) (s : ByteArray) (hs : s.size ≤ maxLen) : Calls Tryz.prog 45 #[.pointer (some ⟨C, 0, none⟩), .string s] W fun e w' => ∃ t : ByteArray, t.size ≤ 7 ∧ e = .returned (.string t) ∧ MidP w C a len cap P p w' := by
  refine (l2DrawSame_tight s hs h.way.cur).mono ?_
  rintro e w' ⟨t, ht, rfl, hc, hg⟩
  exact ⟨t, ht, rfl, h.draw hc hg⟩
theorem belowA (h : MidP w C a len cap P p W) (n : Int) (hn : 1 ≤ n) (hn2 : n ≤ 1000000000) : Calls Tryz.prog 26 #[.pointer (some ⟨C, 0, none⟩), .int .i64 n] W fun e w' => ∃ x : Int, (0 ≤ x ∧ x < n) ∧ IntKind.i64.wrap (1 + x) = 1 + x ∧ e = .returned (.int .i64 x) ∧ MidP w C a len cap P p w' := by
  refine (l1Below_any n h.way.cur hn (by omega)).mono ?_
  rintro e w' ⟨x, ⟨hx, hx2⟩, rfl, hc, hg⟩
  exact ⟨x, ⟨hx, hx2⟩, IntWalk.i64_in _ (by omega), rfl, h.draw hc hg⟩
end

set_option maxRecDepth 100000 in
set_option maxHeartbeats 32000000 in
set_option maxRecDepth 100000 in
theorem l15DrawFor_all {C B : Nat} {a : Option Addr} {len cap : Nat} {w : World} {b : Bok} {s : Spots} (h : Cur w C a len cap) (ho : OwnB w B b s) (hCB : C < B) (hp : partsB b.parts = true) :
    Calls Tryz.prog 21 #[.pointer (some ⟨C, 0, none⟩), .agg #[.int .i64 b.season, .int .i64 b.supply, .int .i64 b.burnt, .int .i64 b.pot, .slice s.fa b.folk.length s.fc, .slice s.ma b.mills.length s.mc, .slice s.pa b.parts.length s.pc, .slice s.wa b.waits.length s.wc]] w (DrawnDt C a len cap w) := by
  have hC : C < w.heap.size := lt_of_cell h.c0
  have HW := Lib.hid (Way.start h)
  have HO := Lib.hid ho
  have HP := Lib.hid hp
  clear h ho hp
  have XC := Lib.hid (CellB.new w b s 47)
  obtain ⟨W0, hW0⟩ : ∃ W, w.alloc (.cells #[.int .i64 b.season, .int .i64 b.supply, .int .i64 b.burnt, .int .i64 b.pot, .slice s.fa b.folk.length s.fc, .slice s.ma b.mills.length s.mc, .slice s.pa b.parts.length s.pc, .slice s.wa b.waits.length s.wc] 47) = W := ⟨_, rfl⟩
  have hs0 : W0.heap.size = w.heap.size + 1 := by rw [← hW0]; simp
  have b0 := below_new w (.cells #[.int .i64 b.season, .int .i64 b.supply, .int .i64 b.burnt, .int .i64 b.pot, .slice s.fa b.folk.length s.fc, .slice s.ma b.mills.length s.mc, .slice s.pa b.parts.length s.pc, .slice s.wa b.waits.length s.wc] 47)
  rw [hW0] at XC b0
  have bz := below_new W0 (.cells #[.int .i64 0, .string ⟨#[]⟩, .string ⟨#[]⟩, .string ⟨#[]⟩, .int .i64 0] 25)
  have R := Lib.hid (OutV.new W0 [.int .i64 0, .string ⟨#[]⟩, .string ⟨#[]⟩, .string ⟨#[]⟩, .int .i64 0] 25)
  obtain ⟨W1, hW1⟩ : ∃ W, W0.alloc (.cells #[.int .i64 0, .string ⟨#[]⟩, .string ⟨#[]⟩, .string ⟨#[]⟩, .int .i64 0] 25) = W := ⟨_, rfl⟩
  rw [show W0.alloc (.cells ([.int .i64 0, .string ⟨#[]⟩, .string ⟨#[]⟩, .string ⟨#[]⟩, .int .i64 0] : List Value).toArray 25) = W1 from hW1, hs0] at R
  have hs1 : W1.heap.size = w.heap.size + 1 + 1 := by rw [← hW1]; simp [hs0]
  rw [hW1] at bz
  replace HW := Lib.hid (HW.out.below (below_trans b0 bz))
  replace HO := Lib.hid (HO.out.below (below_trans b0 bz))
  replace XC := Lib.hid (XC.out.below bz)
  clear b0 bz
  have HS1 := Lib.hid hs1
  have hw1 : w.heap.size < W1.heap.size := by omega
  clear hs1
  go_enter Tryz.func21, Tryz.ntmps21
  go_wp2_with fail
  refine (l1Below_any _ (HW.out.cur.kept (below_new _ _)) (by omega) (by omega)).mono ?_
  rintro e w2 ⟨x, ⟨hx, hx2⟩, rfl, hc, hg⟩
  obtain ⟨j, pv, rfl, ht⟩ := twoW_of hx hx2
  have l2 := kept_cell (b := W1.heap.size) hg (ht.cell W1) (by omega)
  obtain ⟨hj, hpz, -, -⟩ := ht
  have HPV := Lib.hid hpz
  have bl := below_new W1 (.cells #[.string ⟨#[97, 110, 110]⟩, .string ⟨#[109, 105, 97]⟩] 9)
  replace HW := Lib.hid ((HW.out.below bl).draw hc hg)
  replace HO := Lib.hid ((HO.out.below bl).grown hg hCB)
  have hCX : w.heap.size ≠ C := by omega
  have hCR : C ≠ w.heap.size + 1 := by omega
  replace XC := Lib.hid ((XC.out.below bl).keepG hg hCX)
  replace R := Lib.hid ((R.out.below bl).keep hg hCR)
  clear bl hc hg hpz hx hx2
  go_wp2_with fail
  clear l2
  refine (l1Below_any _ HW.out.cur (by omega) (by omega)).mono ?_
  rintro e w3 ⟨y, ⟨hy, hy2⟩, rfl, hc, hg⟩
  replace HW := Lib.hid (HW.out.draw hc hg)
  replace HO := Lib.hid (HO.out.grown hg hCB)
  replace XC := Lib.hid (XC.out.keepG hg (by omega))
  replace R := Lib.hid (R.out.keep hg (by omega))
  clear hc hg hW0 hW1
  have hE := empty_max
  have HEM := Lib.hid hE
  clear hE
  have hy16 : y = 0 ∨ y = 1 ∨ y = 2 ∨ y = 3 ∨ y = 4 ∨ y = 5 ∨ y = 6 ∨ y = 7 ∨ y = 8 ∨ y = 9 ∨ y = 10 ∨ y = 11 ∨ y = 12 ∨ y = 13 ∨ y = 14 ∨ y = 15 := by omega
  clear hy hy2
  rcases hy16 with rfl | rfl | rfl | rfl | rfl | rfl | rfl | rfl | rfl | rfl | rfl | rfl | rfl | rfl | rfl | rfl
  · go_wp2_with fail
    refine (l2Draw_any HW.out.cur).mono ?_
    rintro e ws1 ⟨s1, hs1, rfl, hc, hg⟩
    have Hs1 := Lib.hid hs1
    clear hs1
    replace HW := Lib.hid (HW.out.draw hc hg)
    replace R := Lib.hid (R.out.keep hg (by omega))
    clear hc hg
    go_wp2_with fail
    refine (l1Below_any _ HW.out.cur (by omega) (by omega)).mono ?_
    rintro e wn1 ⟨n1, ⟨hn1, hn12⟩, rfl, hc, hg⟩
    replace HW := Lib.hid (HW.out.draw hc hg)
    replace R := Lib.hid (R.out.keep hg (by omega))
    clear hc hg
    have r0 := R.out.has 0 _ rfl
    have r1 := R.out.has 1 _ rfl
    have r2 := R.out.has 2 _ rfl
    have r3 := R.out.has 3 _ rfl
    have r4 := R.out.has 4 _ rfl
    have rf := R.out.free
    have HE := Lib.hid (end_deed HW.out (B := w.heap.size + 1) (by omega) 1 n1 (who := ⟨#[]⟩) (mill := s1) (to := ⟨#[]⟩) HEM.out Hs1.out HEM.out (by omega))
    go_wp2
    exact bodyPost_ret (v := .agg #[.int .i64 1, .string ⟨#[]⟩, .string s1, .string ⟨#[]⟩, .int .i64 n1]) (by simp [results, Tryz.results21, go_sem, r0, r1, r2, r3, r4]) rfl HE.out
  · go_wp2_with fail
    refine (l1Below_any _ (HW.out.cur.kept (below_new _ _)) (by omega) (by omega)).mono ?_
    rintro e w4 ⟨x, ⟨hx, hx2⟩, rfl, hc, hg⟩
    have hlt := HW.out.grown.size
    have q0 := kept_cell (b := w3.heap.size) (o := 0) hg (by go_simp; rfl) (by omega)
    have q1 := kept_cell (b := w3.heap.size) (o := 1) hg (by go_simp; rfl) (by omega)
    replace HW := Lib.hid ((HW.out.below (below_new _ _)).draw hc hg)
    replace R := Lib.hid ((R.out.below (below_new _ _)).keep hg (by omega))
    clear hc hg
    have hx3 : x = 0 ∨ x = 1 := by omega
    rcases hx3 with rfl | rfl
    · have r0 := R.out.has 0 _ rfl
      have r1 := R.out.has 1 _ rfl
      have r2 := R.out.has 2 _ rfl
      have r3 := R.out.has 3 _ rfl
      have r4 := R.out.has 4 _ rfl
      have rf := R.out.free
      have HE := Lib.hid (end_deed HW.out (B := w.heap.size + 1) (by omega) 2 0 (who := ⟨#[122, 101, 100]⟩) (mill := ⟨#[]⟩) (to := ⟨#[]⟩) (by decide) HEM.out HEM.out (by omega))
      go_wp2
      exact bodyPost_ret (v := .agg #[.int .i64 2, .string ⟨#[122, 101, 100]⟩, .string ⟨#[]⟩, .string ⟨#[]⟩, .int .i64 0]) (by simp [results, Tryz.results21, go_sem, r0, r1, r2, r3, r4]) rfl HE.out
    · have r0 := R.out.has 0 _ rfl
      have r1 := R.out.has 1 _ rfl
      have r2 := R.out.has 2 _ rfl
      have r3 := R.out.has 3 _ rfl
      have r4 := R.out.has 4 _ rfl
      have rf := R.out.free
      have HE := Lib.hid (end_deed HW.out (B := w.heap.size + 1) (by omega) 2 0 (who := ⟨#[99, 97, 116]⟩) (mill := ⟨#[]⟩) (to := ⟨#[]⟩) (by decide) HEM.out HEM.out (by omega))
      go_wp2
      exact bodyPost_ret (v := .agg #[.int .i64 2, .string ⟨#[99, 97, 116]⟩, .string ⟨#[]⟩, .string ⟨#[]⟩, .int .i64 0]) (by simp [results, Tryz.results21, go_sem, r0, r1, r2, r3, r4]) rfl HE.out
  · go_wp2_with fail
    refine (l1Below_any _ HW.out.cur (by omega) (by omega)).mono ?_
    rintro e wn1 ⟨n1, ⟨hn1, hn12⟩, rfl, hc, hg⟩
    replace HW := Lib.hid (HW.out.draw hc hg)
    replace R := Lib.hid (R.out.keep hg (by omega))
    clear hc hg
    have r0 := R.out.has 0 _ rfl
    have r1 := R.out.has 1 _ rfl
    have r2 := R.out.has 2 _ rfl
    have r3 := R.out.has 3 _ rfl
    have r4 := R.out.has 4 _ rfl
    have rf := R.out.free
    have HE := Lib.hid (end_deed HW.out (B := w.heap.size + 1) (by omega) 3 n1 (who := ⟨#[]⟩) (mill := pv) (to := ⟨#[]⟩) HEM.out HPV.out HEM.out (by omega))
    go_wp2
    exact bodyPost_ret (v := .agg #[.int .i64 3, .string ⟨#[]⟩, .string pv, .string ⟨#[]⟩, .int .i64 n1]) (by simp [results, Tryz.results21, go_sem, r0, r1, r2, r3, r4]) rfl HE.out
  · go_wp2_with fail
    refine (l2Draw_any HW.out.cur).mono ?_
    rintro e ws1 ⟨s1, hs1, rfl, hc, hg⟩
    have Hs1 := Lib.hid hs1
    clear hs1
    replace HW := Lib.hid (HW.out.draw hc hg)
    replace R := Lib.hid (R.out.keep hg (by omega))
    clear hc hg
    go_wp2_with fail
    refine (l1Below_any _ HW.out.cur (by omega) (by omega)).mono ?_
    rintro e wn1 ⟨n1, ⟨hn1, hn12⟩, rfl, hc, hg⟩
    have hwn1 : IntKind.i64.wrap (1 + n1) = 1 + n1 := IntWalk.i64_in _ (by omega)
    replace HW := Lib.hid (HW.out.draw hc hg)
    replace R := Lib.hid (R.out.keep hg (by omega))
    clear hc hg
    have r0 := R.out.has 0 _ rfl
    have r1 := R.out.has 1 _ rfl
    have r2 := R.out.has 2 _ rfl
    have r3 := R.out.has 3 _ rfl
    have r4 := R.out.has 4 _ rfl
    have rf := R.out.free
    have HE := Lib.hid (end_deed HW.out (B := w.heap.size + 1) (by omega) 4 (1 + n1) (who := s1) (mill := pv) (to := ⟨#[]⟩) Hs1.out HPV.out HEM.out (by omega))
    go_wp2
    exact bodyPost_ret (v := .agg #[.int .i64 4, .string s1, .string pv, .string ⟨#[]⟩, .int .i64 (1 + n1)]) (by simp [results, Tryz.results21, go_sem, r0, r1, r2, r3, r4]) rfl HE.out
  · go_wp2_with fail
    refine (l2Draw_any HW.out.cur).mono ?_
    rintro e ws1 ⟨s1, hs1, rfl, hc, hg⟩
    have Hs1 := Lib.hid hs1
    clear hs1
    replace HW := Lib.hid (HW.out.draw hc hg)
    replace R := Lib.hid (R.out.keep hg (by omega))
    clear hc hg
    go_wp2_with fail
    refine (l1Below_any _ HW.out.cur (by omega) (by omega)).mono ?_
    rintro e wn1 ⟨n1, ⟨hn1, hn12⟩, rfl, hc, hg⟩
    have hwn1 : IntKind.i64.wrap (1 + n1) = 1 + n1 := IntWalk.i64_in _ (by omega)
    replace HW := Lib.hid (HW.out.draw hc hg)
    replace R := Lib.hid (R.out.keep hg (by omega))
    clear hc hg
    have r0 := R.out.has 0 _ rfl
    have r1 := R.out.has 1 _ rfl
    have r2 := R.out.has 2 _ rfl
    have r3 := R.out.has 3 _ rfl
    have r4 := R.out.has 4 _ rfl
    have rf := R.out.free
    have HE := Lib.hid (end_deed HW.out (B := w.heap.size + 1) (by omega) 4 (1 + n1) (who := s1) (mill := pv) (to := ⟨#[]⟩) Hs1.out HPV.out HEM.out (by omega))
    go_wp2
    exact bodyPost_ret (v := .agg #[.int .i64 4, .string s1, .string pv, .string ⟨#[]⟩, .int .i64 (1 + n1)]) (by simp [results, Tryz.results21, go_sem, r0, r1, r2, r3, r4]) rfl HE.out
  · go_wp2_with fail
    refine (l2Draw_any HW.out.cur).mono ?_
    rintro e ws1 ⟨s1, hs1, rfl, hc, hg⟩
    have Hs1 := Lib.hid hs1
    clear hs1
    replace HW := Lib.hid (HW.out.draw hc hg)
    replace R := Lib.hid (R.out.keep hg (by omega))
    clear hc hg
    go_wp2_with fail
    refine (l1Below_any _ HW.out.cur (by omega) (by omega)).mono ?_
    rintro e wn1 ⟨n1, ⟨hn1, hn12⟩, rfl, hc, hg⟩
    have hwn1 : IntKind.i64.wrap (1 + n1) = 1 + n1 := IntWalk.i64_in _ (by omega)
    replace HW := Lib.hid (HW.out.draw hc hg)
    replace R := Lib.hid (R.out.keep hg (by omega))
    clear hc hg
    have r0 := R.out.has 0 _ rfl
    have r1 := R.out.has 1 _ rfl
    have r2 := R.out.has 2 _ rfl
    have r3 := R.out.has 3 _ rfl
    have r4 := R.out.has 4 _ rfl
    have rf := R.out.free
    have HE := Lib.hid (end_deed HW.out (B := w.heap.size + 1) (by omega) 4 (1 + n1) (who := s1) (mill := pv) (to := ⟨#[]⟩) Hs1.out HPV.out HEM.out (by omega))
    go_wp2
    exact bodyPost_ret (v := .agg #[.int .i64 4, .string s1, .string pv, .string ⟨#[]⟩, .int .i64 (1 + n1)]) (by simp [results, Tryz.results21, go_sem, r0, r1, r2, r3, r4]) rfl HE.out
  · go_wp2_with fail
    refine (l2Draw_any HW.out.cur).mono ?_
    rintro e ws1 ⟨s1, hs1, rfl, hc, hg⟩
    have Hs1 := Lib.hid hs1
    clear hs1
    replace HW := Lib.hid (HW.out.draw hc hg)
    replace R := Lib.hid (R.out.keep hg (by omega))
    clear hc hg
    go_wp2_with fail
    refine (l1Below_any _ HW.out.cur (by omega) (by omega)).mono ?_
    rintro e wn1 ⟨n1, ⟨hn1, hn12⟩, rfl, hc, hg⟩
    have hwn1 : IntKind.i64.wrap (1 + n1) = 1 + n1 := IntWalk.i64_in _ (by omega)
    replace HW := Lib.hid (HW.out.draw hc hg)
    replace R := Lib.hid (R.out.keep hg (by omega))
    clear hc hg
    have r0 := R.out.has 0 _ rfl
    have r1 := R.out.has 1 _ rfl
    have r2 := R.out.has 2 _ rfl
    have r3 := R.out.has 3 _ rfl
    have r4 := R.out.has 4 _ rfl
    have rf := R.out.free
    have HE := Lib.hid (end_deed HW.out (B := w.heap.size + 1) (by omega) 4 (1 + n1) (who := s1) (mill := pv) (to := ⟨#[]⟩) Hs1.out HPV.out HEM.out (by omega))
    go_wp2
    exact bodyPost_ret (v := .agg #[.int .i64 4, .string s1, .string pv, .string ⟨#[]⟩, .int .i64 (1 + n1)]) (by simp [results, Tryz.results21, go_sem, r0, r1, r2, r3, r4]) rfl HE.out
  · have x0 := XC.out.c0
    have x1 := XC.out.c1
    have x2 := XC.out.c2
    have x3 := XC.out.c3
    have x4 := XC.out.c4
    have x5 := XC.out.c5
    have x6 := XC.out.c6
    have x7 := XC.out.c7
    go_wp2_with fail
    refine (l10DrawPart_any (s := s) HW.out.cur HO.out hCB HP.out).mono ?_
    rintro e w4 ⟨p, hpg, rfl, hc, hg⟩
    clear x0 x1 x2 x3 x4 x5 x6 x7
    have HN1 := Lib.hid (show 1 ≤ max 1 p.shares by omega)
    have HN2 := Lib.hid (show max 1 p.shares ≤ 1000000000 by have := hpg.2.2.2; omega)
    have HPW := Lib.hid (seven_max hpg.1)
    have HPM := Lib.hid (seven_max hpg.2.1)
    replace HW := Lib.hid (HW.out.draw hc hg)
    replace R := Lib.hid (R.out.keep hg (by omega))
    have bp := below_new w4 (.cells #[.string p.who, .string p.mill, .int .i64 p.shares] 88)
    have hlt4 := HW.out.grown.size
    have HM := Lib.hid (show MidP w C a len cap w4.heap.size p (w4.alloc (.cells #[.string p.who, .string p.mill, .int .i64 p.shares] 88)) from ⟨HW.out.below bp, OutV.new w4 [.string p.who, .string p.mill, .int .i64 p.shares] 88, R.out.below bp, by have := R.out.lt; omega⟩)
    clear hc hg hpg bp HW HO XC R
    obtain ⟨W5, hW5⟩ : ∃ W, w4.alloc (.cells #[.string p.who, .string p.mill, .int .i64 p.shares] 88) = W := ⟨_, rfl⟩
    rw [hW5] at HM
    have b0 := HM.out.q.has 0 _ rfl
    have b1 := HM.out.q.has 1 _ rfl
    have b2 := HM.out.q.has 2 _ rfl
    go_wp2_with fail
    go_region_held3 (fun w' => w'.cell? ⟨w4.heap.size, 0, none⟩ = some (.string p.who) ∧ w'.cell? ⟨w4.heap.size, 1, none⟩ = some (.string p.mill) ∧ w'.cell? ⟨w4.heap.size, 2, none⟩ = some (.int .i64 p.shares))
      (first | with_reducible exact cellsP HM.out | with_reducible exact cellsP HM.out.drew | with_reducible exact cellsP HM5.out | with_reducible exact cellsP HM6.out | with_reducible exact cellsP HM7.out | with_reducible exact cellsS HM7.out _ _ _ _ _)
      (first
      | (go_at_call 45; first
        | ((with_reducible refine (sameA HM.out.drew p.who HPW.out).mono ?_); rintro e w5 ⟨t5, ht5, rfl, hM⟩; have HT5 := Lib.hid ht5; have HM5 := Lib.hid hM; clear ht5 hM)
        | ((with_reducible refine (sameA HM5.out p.mill HPM.out).mono ?_); rintro e w6 ⟨t6, ht6, rfl, hM⟩; have HT6 := Lib.hid ht6; have HM6 := Lib.hid hM; clear ht6 hM))
      | (go_at_call 46; refine (l1Max_any _ _ _).mono ?_; rintro e w' ⟨rfl, rfl⟩)
      | (go_at_call 26; (with_reducible refine (belowA HM6.out _ HN1.out HN2.out).mono ?_); rintro e w7 ⟨x7, hb7, hwr, rfl, hM⟩; have HX7 := Lib.hid hb7; clear hb7; have HM7 := Lib.hid hM; have r0 := hM.r.has 0 _ rfl; have r1 := hM.r.has 1 _ rfl; have r2 := hM.r.has 2 _ rfl; have r3 := hM.r.has 3 _ rfl; have r4 := hM.r.has 4 _ rfl; have rf := hM.r.free; have rlt := hM.r.lt; clear hM))
    all_goals
      have HE := Lib.hid (end_deed HM7.out.way (B := w.heap.size + 1) (by omega) 5 (1 + x7) (who := t5) (mill := t6) (to := ⟨#[]⟩) HT5.out HT6.out HEM.out (by have := HX7.out; have := HN2.out; omega))
      go_wp2
      exact bodyPost_ret (v := .agg #[.int .i64 5, .string t5, .string t6, .string ⟨#[]⟩, .int .i64 (1 + x7)]) (by simp [results, Tryz.results21, go_sem, r0, r1, r2, r3, r4]) rfl HE.out
  · have x0 := XC.out.c0
    have x1 := XC.out.c1
    have x2 := XC.out.c2
    have x3 := XC.out.c3
    have x4 := XC.out.c4
    have x5 := XC.out.c5
    have x6 := XC.out.c6
    have x7 := XC.out.c7
    go_wp2_with fail
    refine (l10DrawPart_any (s := s) HW.out.cur HO.out hCB HP.out).mono ?_
    rintro e w4 ⟨p, hpg, rfl, hc, hg⟩
    clear x0 x1 x2 x3 x4 x5 x6 x7
    have HN1 := Lib.hid (show 1 ≤ max 1 p.shares by omega)
    have HN2 := Lib.hid (show max 1 p.shares ≤ 1000000000 by have := hpg.2.2.2; omega)
    have HPW := Lib.hid (seven_max hpg.1)
    have HPM := Lib.hid (seven_max hpg.2.1)
    replace HW := Lib.hid (HW.out.draw hc hg)
    replace R := Lib.hid (R.out.keep hg (by omega))
    have bp := below_new w4 (.cells #[.string p.who, .string p.mill, .int .i64 p.shares] 88)
    have hlt4 := HW.out.grown.size
    have HM := Lib.hid (show MidP w C a len cap w4.heap.size p (w4.alloc (.cells #[.string p.who, .string p.mill, .int .i64 p.shares] 88)) from ⟨HW.out.below bp, OutV.new w4 [.string p.who, .string p.mill, .int .i64 p.shares] 88, R.out.below bp, by have := R.out.lt; omega⟩)
    clear hc hg hpg bp HW HO XC R
    obtain ⟨W5, hW5⟩ : ∃ W, w4.alloc (.cells #[.string p.who, .string p.mill, .int .i64 p.shares] 88) = W := ⟨_, rfl⟩
    rw [hW5] at HM
    have b0 := HM.out.q.has 0 _ rfl
    have b1 := HM.out.q.has 1 _ rfl
    have b2 := HM.out.q.has 2 _ rfl
    go_wp2_with fail
    go_region_held3 (fun w' => w'.cell? ⟨w4.heap.size, 0, none⟩ = some (.string p.who) ∧ w'.cell? ⟨w4.heap.size, 1, none⟩ = some (.string p.mill) ∧ w'.cell? ⟨w4.heap.size, 2, none⟩ = some (.int .i64 p.shares))
      (first | with_reducible exact cellsP HM.out | with_reducible exact cellsP HM.out.drew | with_reducible exact cellsP HM5.out | with_reducible exact cellsP HM6.out | with_reducible exact cellsP HM7.out | with_reducible exact cellsS HM7.out _ _ _ _ _)
      (first
      | (go_at_call 45; first
        | ((with_reducible refine (sameA HM.out.drew p.who HPW.out).mono ?_); rintro e w5 ⟨t5, ht5, rfl, hM⟩; have HT5 := Lib.hid ht5; have HM5 := Lib.hid hM; clear ht5 hM)
        | ((with_reducible refine (sameA HM5.out p.mill HPM.out).mono ?_); rintro e w6 ⟨t6, ht6, rfl, hM⟩; have HT6 := Lib.hid ht6; have HM6 := Lib.hid hM; clear ht6 hM))
      | (go_at_call 46; refine (l1Max_any _ _ _).mono ?_; rintro e w' ⟨rfl, rfl⟩)
      | (go_at_call 26; (with_reducible refine (belowA HM6.out _ HN1.out HN2.out).mono ?_); rintro e w7 ⟨x7, hb7, hwr, rfl, hM⟩; have HX7 := Lib.hid hb7; clear hb7; have HM7 := Lib.hid hM; have r0 := hM.r.has 0 _ rfl; have r1 := hM.r.has 1 _ rfl; have r2 := hM.r.has 2 _ rfl; have r3 := hM.r.has 3 _ rfl; have r4 := hM.r.has 4 _ rfl; have rf := hM.r.free; have rlt := hM.r.lt; clear hM))
    all_goals
      have HE := Lib.hid (end_deed HM7.out.way (B := w.heap.size + 1) (by omega) 5 (1 + x7) (who := t5) (mill := t6) (to := ⟨#[]⟩) HT5.out HT6.out HEM.out (by have := HX7.out; have := HN2.out; omega))
      go_wp2
      exact bodyPost_ret (v := .agg #[.int .i64 5, .string t5, .string t6, .string ⟨#[]⟩, .int .i64 (1 + x7)]) (by simp [results, Tryz.results21, go_sem, r0, r1, r2, r3, r4]) rfl HE.out
  · have x0 := XC.out.c0
    have x1 := XC.out.c1
    have x2 := XC.out.c2
    have x3 := XC.out.c3
    have x4 := XC.out.c4
    have x5 := XC.out.c5
    have x6 := XC.out.c6
    have x7 := XC.out.c7
    go_wp2_with fail
    refine (l10DrawPart_any (s := s) HW.out.cur HO.out hCB HP.out).mono ?_
    rintro e w4 ⟨p, hpg, rfl, hc, hg⟩
    clear x0 x1 x2 x3 x4 x5 x6 x7
    have HN1 := Lib.hid (show 1 ≤ max 1 p.shares by omega)
    have HN2 := Lib.hid (show max 1 p.shares ≤ 1000000000 by have := hpg.2.2.2; omega)
    have HPW := Lib.hid (seven_max hpg.1)
    have HPM := Lib.hid (seven_max hpg.2.1)
    replace HW := Lib.hid (HW.out.draw hc hg)
    replace R := Lib.hid (R.out.keep hg (by omega))
    have bp := below_new w4 (.cells #[.string p.who, .string p.mill, .int .i64 p.shares] 88)
    have hlt4 := HW.out.grown.size
    have HM := Lib.hid (show MidP w C a len cap w4.heap.size p (w4.alloc (.cells #[.string p.who, .string p.mill, .int .i64 p.shares] 88)) from ⟨HW.out.below bp, OutV.new w4 [.string p.who, .string p.mill, .int .i64 p.shares] 88, R.out.below bp, by have := R.out.lt; omega⟩)
    clear hc hg hpg bp HW HO XC R
    obtain ⟨W5, hW5⟩ : ∃ W, w4.alloc (.cells #[.string p.who, .string p.mill, .int .i64 p.shares] 88) = W := ⟨_, rfl⟩
    rw [hW5] at HM
    have b0 := HM.out.q.has 0 _ rfl
    have b1 := HM.out.q.has 1 _ rfl
    have b2 := HM.out.q.has 2 _ rfl
    cases hq : (p.mill.toList == [109, 105, 97])
    · go_wp2_with fail
      go_region_held3 (fun w' => w'.cell? ⟨w4.heap.size, 0, none⟩ = some (.string p.who) ∧ w'.cell? ⟨w4.heap.size, 1, none⟩ = some (.string p.mill) ∧ w'.cell? ⟨w4.heap.size, 2, none⟩ = some (.int .i64 p.shares))
        (first | with_reducible exact cellsP HM.out | with_reducible exact cellsP HM.out.drew | with_reducible exact cellsP HM5.out | with_reducible exact cellsP HM6.out | with_reducible exact cellsP HM7.out | with_reducible exact cellsS HM7.out _ _ _ _ _)
        (first
        | (go_at_call 45; first
          | ((with_reducible refine (sameA HM.out.drew p.who HPW.out).mono ?_); rintro e w5 ⟨t5, ht5, rfl, hM⟩; have HT5 := Lib.hid ht5; have HM5 := Lib.hid hM; clear ht5 hM)
          | ((with_reducible refine (sameA HM5.out p.mill HPM.out).mono ?_); rintro e w6 ⟨t6, ht6, rfl, hM⟩; have HT6 := Lib.hid ht6; have HM6 := Lib.hid hM; clear ht6 hM))
        | (go_at_call 46; refine (l1Max_any _ _ _).mono ?_; rintro e w' ⟨rfl, rfl⟩)
        | (go_at_call 26; (with_reducible refine (belowA HM6.out _ HN1.out HN2.out).mono ?_); rintro e w7 ⟨x7, hb7, hwr, rfl, hM⟩; have HX7 := Lib.hid hb7; clear hb7; have HM7 := Lib.hid hM; have r0 := hM.r.has 0 _ rfl; have r1 := hM.r.has 1 _ rfl; have r2 := hM.r.has 2 _ rfl; have r3 := hM.r.has 3 _ rfl; have r4 := hM.r.has 4 _ rfl; have rf := hM.r.free; have rlt := hM.r.lt; clear hM))
      all_goals
        have HE := Lib.hid (end_deed HM7.out.way (B := w.heap.size + 1) (by omega) 6 (1 + x7) (who := t5) (mill := t6) (to := ⟨#[109, 105, 97]⟩) HT5.out HT6.out (by decide) (by have := HX7.out; have := HN2.out; omega))
        go_wp2
        exact bodyPost_ret (v := .agg #[.int .i64 6, .string t5, .string t6, .string ⟨#[109, 105, 97]⟩, .int .i64 (1 + x7)]) (by simp [results, Tryz.results21, go_sem, r0, r1, r2, r3, r4]) rfl HE.out
    · go_wp2_with fail
      go_region_held3 (fun w' => w'.cell? ⟨w4.heap.size, 0, none⟩ = some (.string p.who) ∧ w'.cell? ⟨w4.heap.size, 1, none⟩ = some (.string p.mill) ∧ w'.cell? ⟨w4.heap.size, 2, none⟩ = some (.int .i64 p.shares))
        (first | with_reducible exact cellsP HM.out | with_reducible exact cellsP HM.out.drew | with_reducible exact cellsP HM5.out | with_reducible exact cellsP HM6.out | with_reducible exact cellsP HM7.out | with_reducible exact cellsS HM7.out _ _ _ _ _)
        (first
        | (go_at_call 45; first
          | ((with_reducible refine (sameA HM.out.drew p.who HPW.out).mono ?_); rintro e w5 ⟨t5, ht5, rfl, hM⟩; have HT5 := Lib.hid ht5; have HM5 := Lib.hid hM; clear ht5 hM)
          | ((with_reducible refine (sameA HM5.out p.mill HPM.out).mono ?_); rintro e w6 ⟨t6, ht6, rfl, hM⟩; have HT6 := Lib.hid ht6; have HM6 := Lib.hid hM; clear ht6 hM))
        | (go_at_call 46; refine (l1Max_any _ _ _).mono ?_; rintro e w' ⟨rfl, rfl⟩)
        | (go_at_call 26; (with_reducible refine (belowA HM6.out _ HN1.out HN2.out).mono ?_); rintro e w7 ⟨x7, hb7, hwr, rfl, hM⟩; have HX7 := Lib.hid hb7; clear hb7; have HM7 := Lib.hid hM; have r0 := hM.r.has 0 _ rfl; have r1 := hM.r.has 1 _ rfl; have r2 := hM.r.has 2 _ rfl; have r3 := hM.r.has 3 _ rfl; have r4 := hM.r.has 4 _ rfl; have rf := hM.r.free; have rlt := hM.r.lt; clear hM))
      all_goals
        have HE := Lib.hid (end_deed HM7.out.way (B := w.heap.size + 1) (by omega) 6 (1 + x7) (who := t5) (mill := t6) (to := ⟨#[97, 110, 110]⟩) HT5.out HT6.out (by decide) (by have := HX7.out; have := HN2.out; omega))
        go_wp2
        exact bodyPost_ret (v := .agg #[.int .i64 6, .string t5, .string t6, .string ⟨#[97, 110, 110]⟩, .int .i64 (1 + x7)]) (by simp [results, Tryz.results21, go_sem, r0, r1, r2, r3, r4]) rfl HE.out
  · go_wp2_with fail
    refine (l1Once_any _ HW.out.cur (by omega) (by omega)).mono ?_
    rintro e w4 ⟨t, rfl, hc, hg⟩
    replace HW := Lib.hid (HW.out.draw hc hg)
    replace R := Lib.hid (R.out.keep hg (by omega))
    clear hc hg
    cases t
    · go_wp2_with fail
      refine (l1Below_any _ HW.out.cur (by omega) (by omega)).mono ?_
      rintro e wn1 ⟨n1, ⟨hn1, hn12⟩, rfl, hc, hg⟩
      have hwn1 : IntKind.i64.wrap (1 + n1) = 1 + n1 := IntWalk.i64_in _ (by omega)
      replace HW := Lib.hid (HW.out.draw hc hg)
      replace R := Lib.hid (R.out.keep hg (by omega))
      clear hc hg
      have r0 := R.out.has 0 _ rfl
      have r1 := R.out.has 1 _ rfl
      have r2 := R.out.has 2 _ rfl
      have r3 := R.out.has 3 _ rfl
      have r4 := R.out.has 4 _ rfl
      have rf := R.out.free
      have HE := Lib.hid (end_deed HW.out (B := w.heap.size + 1) (by omega) 7 (1 + n1) (who := ⟨#[]⟩) (mill := pv) (to := ⟨#[]⟩) HEM.out HPV.out HEM.out (by omega))
      go_wp2
      exact bodyPost_ret (v := .agg #[.int .i64 7, .string ⟨#[]⟩, .string pv, .string ⟨#[]⟩, .int .i64 (1 + n1)]) (by simp [results, Tryz.results21, go_sem, r0, r1, r2, r3, r4]) rfl HE.out
    · have r0 := R.out.has 0 _ rfl
      have r1 := R.out.has 1 _ rfl
      have r2 := R.out.has 2 _ rfl
      have r3 := R.out.has 3 _ rfl
      have r4 := R.out.has 4 _ rfl
      have rf := R.out.free
      have HE := Lib.hid (end_deed HW.out (B := w.heap.size + 1) (by omega) 8 0 (who := ⟨#[]⟩) (mill := pv) (to := ⟨#[]⟩) HEM.out HPV.out HEM.out (by omega))
      go_wp2
      exact bodyPost_ret (v := .agg #[.int .i64 8, .string ⟨#[]⟩, .string pv, .string ⟨#[]⟩, .int .i64 0]) (by simp [results, Tryz.results21, go_sem, r0, r1, r2, r3, r4]) rfl HE.out
  · have r0 := R.out.has 0 _ rfl
    have r1 := R.out.has 1 _ rfl
    have r2 := R.out.has 2 _ rfl
    have r3 := R.out.has 3 _ rfl
    have r4 := R.out.has 4 _ rfl
    have rf := R.out.free
    have HE := Lib.hid (end_deed HW.out (B := w.heap.size + 1) (by omega) 8 0 (who := ⟨#[]⟩) (mill := pv) (to := ⟨#[]⟩) HEM.out HPV.out HEM.out (by omega))
    go_wp2
    exact bodyPost_ret (v := .agg #[.int .i64 8, .string ⟨#[]⟩, .string pv, .string ⟨#[]⟩, .int .i64 0]) (by simp [results, Tryz.results21, go_sem, r0, r1, r2, r3, r4]) rfl HE.out
  · go_wp2_with fail
    refine (l1Below_any _ HW.out.cur (by omega) (by omega)).mono ?_
    rintro e wn1 ⟨n1, ⟨hn1, hn12⟩, rfl, hc, hg⟩
    have hwn1 : IntKind.i64.wrap (1 + n1) = 1 + n1 := IntWalk.i64_in _ (by omega)
    replace HW := Lib.hid (HW.out.draw hc hg)
    replace R := Lib.hid (R.out.keep hg (by omega))
    clear hc hg
    have r0 := R.out.has 0 _ rfl
    have r1 := R.out.has 1 _ rfl
    have r2 := R.out.has 2 _ rfl
    have r3 := R.out.has 3 _ rfl
    have r4 := R.out.has 4 _ rfl
    have rf := R.out.free
    have HE := Lib.hid (end_deed HW.out (B := w.heap.size + 1) (by omega) 9 (1 + n1) (who := ⟨#[]⟩) (mill := pv) (to := ⟨#[]⟩) HEM.out HPV.out HEM.out (by omega))
    go_wp2
    exact bodyPost_ret (v := .agg #[.int .i64 9, .string ⟨#[]⟩, .string pv, .string ⟨#[]⟩, .int .i64 (1 + n1)]) (by simp [results, Tryz.results21, go_sem, r0, r1, r2, r3, r4]) rfl HE.out
  · go_wp2_with fail
    refine (l1Below_any _ HW.out.cur (by omega) (by omega)).mono ?_
    rintro e wn1 ⟨n1, ⟨hn1, hn12⟩, rfl, hc, hg⟩
    have hwn1 : IntKind.i64.wrap (1 + n1) = 1 + n1 := IntWalk.i64_in _ (by omega)
    replace HW := Lib.hid (HW.out.draw hc hg)
    replace R := Lib.hid (R.out.keep hg (by omega))
    clear hc hg
    have r0 := R.out.has 0 _ rfl
    have r1 := R.out.has 1 _ rfl
    have r2 := R.out.has 2 _ rfl
    have r3 := R.out.has 3 _ rfl
    have r4 := R.out.has 4 _ rfl
    have rf := R.out.free
    have HE := Lib.hid (end_deed HW.out (B := w.heap.size + 1) (by omega) 9 (1 + n1) (who := ⟨#[]⟩) (mill := pv) (to := ⟨#[]⟩) HEM.out HPV.out HEM.out (by omega))
    go_wp2
    exact bodyPost_ret (v := .agg #[.int .i64 9, .string ⟨#[]⟩, .string pv, .string ⟨#[]⟩, .int .i64 (1 + n1)]) (by simp [results, Tryz.results21, go_sem, r0, r1, r2, r3, r4]) rfl HE.out
  · go_wp2_with fail
    refine (l2Draw_any HW.out.cur).mono ?_
    rintro e ws1 ⟨s1, hs1, rfl, hc, hg⟩
    have Hs1 := Lib.hid hs1
    clear hs1
    replace HW := Lib.hid (HW.out.draw hc hg)
    replace R := Lib.hid (R.out.keep hg (by omega))
    clear hc hg
    go_wp2_with fail
    refine (l2Draw_any HW.out.cur).mono ?_
    rintro e ws2 ⟨s2, hs2, rfl, hc, hg⟩
    have Hs2 := Lib.hid hs2
    clear hs2
    replace HW := Lib.hid (HW.out.draw hc hg)
    replace R := Lib.hid (R.out.keep hg (by omega))
    clear hc hg
    go_wp2_with fail
    refine (l1Below_any _ HW.out.cur (by omega) (by omega)).mono ?_
    rintro e wn1 ⟨n1, ⟨hn1, hn12⟩, rfl, hc, hg⟩
    have hwn1 : IntKind.i64.wrap (1 + n1) = 1 + n1 := IntWalk.i64_in _ (by omega)
    replace HW := Lib.hid (HW.out.draw hc hg)
    replace R := Lib.hid (R.out.keep hg (by omega))
    clear hc hg
    have r0 := R.out.has 0 _ rfl
    have r1 := R.out.has 1 _ rfl
    have r2 := R.out.has 2 _ rfl
    have r3 := R.out.has 3 _ rfl
    have r4 := R.out.has 4 _ rfl
    have rf := R.out.free
    have HE := Lib.hid (end_deed HW.out (B := w.heap.size + 1) (by omega) 10 (1 + n1) (who := s1) (mill := ⟨#[]⟩) (to := s2) Hs1.out HEM.out Hs2.out (by omega))
    go_wp2
    exact bodyPost_ret (v := .agg #[.int .i64 10, .string s1, .string ⟨#[]⟩, .string s2, .int .i64 (1 + n1)]) (by simp [results, Tryz.results21, go_sem, r0, r1, r2, r3, r4]) rfl HE.out
  · have r0 := R.out.has 0 _ rfl
    have r1 := R.out.has 1 _ rfl
    have r2 := R.out.has 2 _ rfl
    have r3 := R.out.has 3 _ rfl
    have r4 := R.out.has 4 _ rfl
    have rf := R.out.free
    have HE := Lib.hid (end_deed HW.out (B := w.heap.size + 1) (by omega) 11 0 (who := ⟨#[]⟩) (mill := ⟨#[]⟩) (to := ⟨#[]⟩) HEM.out HEM.out HEM.out (by omega))
    go_wp2
    exact bodyPost_ret (v := .agg #[.int .i64 11, .string ⟨#[]⟩, .string ⟨#[]⟩, .string ⟨#[]⟩, .int .i64 0]) (by simp [results, Tryz.results21, go_sem, r0, r1, r2, r3, r4]) rfl HE.out
theorem l15DrawFor_any {C B : Nat} {a : Option Addr} {len cap : Nat} {w : World} {b : Bok} {s : Spots} (h : Cur w C a len cap) (ho : OwnB w B b s) (hCB : C < B) (hp : partsB b.parts = true) :
    Calls Tryz.prog 21 #[.pointer (some ⟨C, 0, none⟩), .agg #[.int .i64 b.season, .int .i64 b.supply, .int .i64 b.burnt, .int .i64 b.pot, .slice s.fa b.folk.length s.fc, .slice s.ma b.mills.length s.mc, .slice s.pa b.parts.length s.pc, .slice s.wa b.waits.length s.wc]] w (DrawnDe C a len cap w) :=
  (l15DrawFor_all h ho hCB hp).mono fun _ _ ⟨d, hd, r⟩ => ⟨d, hd.short, r⟩
end Go.Proofs.YtoabpbdjffonlaaGreatDoor
