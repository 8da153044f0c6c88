/-
  Texts joined: Draw, DrawA, BendS, WordS, MakeU, DigF, IntS.
-/
import Derived.Test.YtoabpbdjffonlaaGreatDoorP1
import Derived.Test.YtoabpbdjffonlaaGreatDoorP2
import Derived.Test.YtoabpbdjffonlaaGreatDoorP5
import Derived.Laws.IdiomStrings
import Derived.WalkMore
import Derived.Laws.OwnMore
import Derived.Lib.ItoaNum
import Derived.Lib.Hide
import Derived.LoopN
import Derived.StillTailTactics
namespace Go.Proofs.YtoabpbdjffonlaaGreatDoor
open Go.ChangeShapes Go.WideShapes Go.ChangeAt Go.RowKit

theorem l1From_any {C : Nat} {a : Option Addr} {len cap : Nat} {w : World} (lo hi : Int) (h : Cur w C a len cap) (h1 : lo ≤ hi) (h2 : -1000000000 ≤ lo) (h3 : hi ≤ 1000000000) :
    Calls Tryz.prog 55 #[.pointer (some ⟨C, 0, none⟩), .int .i64 lo, .int .i64 hi] w (Drawn C a len cap (fun x => lo ≤ x ∧ x ≤ hi) w) := by
  go_enter Tryz.func55, Tryz.ntmps55
  go_wp2_with fail
  refine (l1Below_any _ h (by omega) (by omega)).mono ?_
  rintro e w1 ⟨x, ⟨hx, hx2⟩, rfl, hc1, hg1⟩
  go_wp2
  go_ret
  exact ⟨_, ⟨by omega, by omega⟩, rfl, hc1, hg1⟩
end Go.Proofs.YtoabpbdjffonlaaGreatDoor
namespace Go.Proofs.YtoabpbdjffonlaaGreatDoor
open Go.ChangeShapes Go.WideShapes Go.ChangeAt Go.RowKit

/-- A deed under way: it lies in block D, the result's block is as it was made. -/
structure WayD (w : World) (C : Nat) (a : Option Addr) (len cap : Nat) (D : Nat) (d : Dee) (W : World) : Prop where
  way : Way w C a len cap W
  dd : OutV W D (Dee.cs d)
  r : OutV W (w.heap.size + 1) [.int .i64 0, .string ⟨#[]⟩, .string ⟨#[]⟩, .string ⟨#[]⟩, .int .i64 0]
  hD : w.heap.size + 1 < D
section
variable {w W W' : World} {C D : Nat} {a : Option Addr} {len cap : Nat} {d d' : Dee}
theorem WayD.draw (h : WayD w C a len cap D d W) (hc : Cur W' C a len cap) (hg : W.grownBy W' (some C)) : WayD w C a len cap D d W' :=
  ⟨h.way.draw hc hg, h.dd.keep hg (by have := h.hD; have := h.way.hC; omega), h.r.keep hg (by have := h.way.hC; omega), h.hD⟩
theorem WayD.below (h : WayD w C a len cap D d W) (hb : Below W.heap.size W W') : WayD w C a len cap D d W' :=
  ⟨h.way.below hb, h.dd.below hb, h.r.below hb, h.hD⟩
theorem WayD.put (h : WayD w C a len cap D d W) {o : Nat} {v : Value} (e : Dee.cs d' = (Dee.cs d).set o v) : WayD w C a len cap D d' (W.setCell ⟨D, o, none⟩ v) :=
  ⟨h.way.set (by have := h.hD; omega) o v, by rw [e]; exact h.dd.set o v, h.r.keep (gset (gid W (some D)) v) (by have := h.hD; omega), h.hD⟩
end

set_option maxHeartbeats 16000000 in
set_option maxRecDepth 100000 in
theorem l15DrawAny_all {C B : Nat} {a : Option Addr} {len cap : Nat} {w : World} {b : Bok} {s : Spots} (h : Cur w C a len cap) (ho : OwnB w B b s) (hCB : C < B) (hp : partsB b.parts = true) :
    Calls Tryz.prog 37 #[.pointer (some ⟨C, 0, none⟩), .agg #[.int .i64 b.season, .int .i64 b.supply, .int .i64 b.burnt, .int .i64 b.pot, .slice s.fa b.folk.length s.fc, .slice s.ma b.mills.length s.mc, .slice s.pa b.parts.length s.pc, .slice s.wa b.waits.length s.wc]] w (DrawnDt C a len cap w) := by
  have hC : C < w.heap.size := lt_of_cell h.c0
  have HW := Lib.hid (Way.start h)
  have HO := Lib.hid ho
  have HP := Lib.hid hp
  clear h ho hp
  have XC := Lib.hid (CellB.new w b s 47)
  obtain ⟨W0, hW0⟩ : ∃ W, w.alloc (.cells #[.int .i64 b.season, .int .i64 b.supply, .int .i64 b.burnt, .int .i64 b.pot, .slice s.fa b.folk.length s.fc, .slice s.ma b.mills.length s.mc, .slice s.pa b.parts.length s.pc, .slice s.wa b.waits.length s.wc] 47) = W := ⟨_, rfl⟩
  have hs0 : W0.heap.size = w.heap.size + 1 := by rw [← hW0]; simp
  have b0 := below_new w (.cells #[.int .i64 b.season, .int .i64 b.supply, .int .i64 b.burnt, .int .i64 b.pot, .slice s.fa b.folk.length s.fc, .slice s.ma b.mills.length s.mc, .slice s.pa b.parts.length s.pc, .slice s.wa b.waits.length s.wc] 47)
  rw [hW0] at XC b0
  have bz := below_new W0 (.cells #[.int .i64 0, .string ⟨#[]⟩, .string ⟨#[]⟩, .string ⟨#[]⟩, .int .i64 0] 25)
  have R := Lib.hid (OutV.new W0 [.int .i64 0, .string ⟨#[]⟩, .string ⟨#[]⟩, .string ⟨#[]⟩, .int .i64 0] 25)
  obtain ⟨W1, hW1⟩ : ∃ W, W0.alloc (.cells #[.int .i64 0, .string ⟨#[]⟩, .string ⟨#[]⟩, .string ⟨#[]⟩, .int .i64 0] 25) = W := ⟨_, rfl⟩
  rw [show W0.alloc (.cells ([.int .i64 0, .string ⟨#[]⟩, .string ⟨#[]⟩, .string ⟨#[]⟩, .int .i64 0] : List Value).toArray 25) = W1 from hW1, hs0] at R
  have hs1 : W1.heap.size = w.heap.size + 1 + 1 := by rw [← hW1]; simp [hs0]
  rw [hW1] at bz
  replace HW := Lib.hid (HW.out.below (below_trans b0 bz))
  replace HO := Lib.hid (HO.out.below (below_trans b0 bz))
  replace XC := Lib.hid (XC.out.below bz)
  clear b0 bz
  have HS1 := Lib.hid hs1
  clear hs1
  have x0 := XC.out.c0
  have x1 := XC.out.c1
  have x2 := XC.out.c2
  have x3 := XC.out.c3
  have x4 := XC.out.c4
  have x5 := XC.out.c5
  have x6 := XC.out.c6
  have x7 := XC.out.c7
  go_enter Tryz.func37, Tryz.ntmps37
  go_wp2_with fail
  refine (l15DrawFor_all HW.out.cur HO.out hCB HP.out).mono ?_
  rintro e w2 ⟨d, ⟨z1, z2, z3, z4⟩, rfl, hc, hg⟩
  clear x0 x1 x2 x3 x4 x5 x6 x7 hW0 hW1
  have hsz := hg.size
  have bn := below_new w2 (.cells #[.int .i64 d.kind, .string d.who, .string d.mill, .string d.to, .int .i64 d.n] 25)
  have HD := Lib.hid (show WayD w C a len cap w2.heap.size d (w2.alloc (.cells #[.int .i64 d.kind, .string d.who, .string d.mill, .string d.to, .int .i64 d.n] 25)) from
    ⟨(HW.out.draw hc hg).below bn, OutV.new w2 (Dee.cs d) 25, (R.out.keep hg (by omega)).below bn, by have := HS1.out; omega⟩)
  have HZ1 := Lib.hid z1; have HZ2 := Lib.hid z2; have HZ3 := Lib.hid z3; have HZ4 := Lib.hid z4
  clear z1 z2 z3 z4 hc hg bn hsz HW HO HP XC R
  obtain ⟨D, hDD⟩ : ∃ D, w2.heap.size = D := ⟨_, rfl⟩
  go_wp2_with fail
  refine (l1Once_any 8 HD.out.way.cur (by omega) (by omega)).mono ?_
  rintro e w3 ⟨t, rfl, hc, hg⟩
  replace HD := Lib.hid (HD.out.draw hc hg)
  clear hc hg
  rw [hDD] at HD
  clear hDD
  cases t
  case false =>
    have y0 := HD.out.dd.has 0 _ rfl
    have y1 := HD.out.dd.has 1 _ rfl
    have y2 := HD.out.dd.has 2 _ rfl
    have y3 := HD.out.dd.has 3 _ rfl
    have y4 := HD.out.dd.has 4 _ rfl
    have yf := HD.out.dd.free
    have yl := HD.out.dd.lt
    have r0 := HD.out.r.has 0 _ rfl
    have r1 := HD.out.r.has 1 _ rfl
    have r2 := HD.out.r.has 2 _ rfl
    have r3 := HD.out.r.has 3 _ rfl
    have r4 := HD.out.r.has 4 _ rfl
    have rf := HD.out.r.free
    have rl := HD.out.r.lt
    have hDr := HD.out.hD
    have HEND := Lib.hid (end_deed HD.out.way (B := w.heap.size + 1) (by omega) (d.kind) (d.n) (who := d.who) (mill := d.mill) (to := d.to) HZ1.out HZ2.out HZ3.out HZ4.out)
    go_wp2
    exact bodyPost_ret (v := .agg #[.int .i64 (d.kind), .string d.who, .string d.mill, .string d.to, .int .i64 (d.n)]) (by simp [results, Tryz.results37, go_sem, r0, r1, r2, r3, r4]) rfl HEND.out
  go_wp2_with fail
  refine (l1Below_any 5 HD.out.way.cur (by omega) (by omega)).mono ?_
  rintro e w4 ⟨x, ⟨hx, hx2⟩, rfl, hc, hg⟩
  replace HD := Lib.hid (HD.out.draw hc hg)
  clear hc hg
  have hx5 : x = 0 ∨ x = 1 ∨ x = 2 ∨ x = 3 ∨ x = 4 := by omega
  clear hx hx2
  rcases hx5 with rfl | rfl | rfl | rfl | rfl
  · go_wp2_with fail
    refine (l1From_any 0 12 HD.out.way.cur (by omega) (by omega) (by omega)).mono ?_
    rintro e w5 ⟨y, ⟨hy, hy2⟩, rfl, hc, hg⟩
    replace HD := Lib.hid (HD.out.draw hc hg)
    clear hc hg hy hy2
    have HE := Lib.hid (HD.out.put (o := 0) (d' := { d with kind := y }) (v := .int .i64 y) rfl)
    have y0 := HD.out.dd.has 0 _ rfl
    have y1 := HD.out.dd.has 1 _ rfl
    have y2 := HD.out.dd.has 2 _ rfl
    have y3 := HD.out.dd.has 3 _ rfl
    have y4 := HD.out.dd.has 4 _ rfl
    have yf := HD.out.dd.free
    have yl := HD.out.dd.lt
    have r0 := HD.out.r.has 0 _ rfl
    have r1 := HD.out.r.has 1 _ rfl
    have r2 := HD.out.r.has 2 _ rfl
    have r3 := HD.out.r.has 3 _ rfl
    have r4 := HD.out.r.has 4 _ rfl
    have rf := HD.out.r.free
    have rl := HD.out.r.lt
    have hDr := HD.out.hD
    have HEND := Lib.hid (end_deed HE.out.way (B := w.heap.size + 1) (by omega) (y) (d.n) (who := d.who) (mill := d.mill) (to := d.to) HZ1.out HZ2.out HZ3.out HZ4.out)
    go_wp2
    exact bodyPost_ret (v := .agg #[.int .i64 (y), .string d.who, .string d.mill, .string d.to, .int .i64 (d.n)]) (by simp [results, Tryz.results37, go_sem, r0, r1, r2, r3, r4]) rfl HEND.out
  · go_wp2_with fail
    refine (l2DrawAny_any HD.out.way.cur).mono ?_
    rintro e w5 ⟨t, ht, rfl, hc, hg⟩
    replace HD := Lib.hid (HD.out.draw hc hg)
    have HT := Lib.hid ht
    clear hc hg ht
    have HE := Lib.hid (HD.out.put (o := 1) (d' := { d with who := t }) (v := .string t) rfl)
    have y0 := HD.out.dd.has 0 _ rfl
    have y1 := HD.out.dd.has 1 _ rfl
    have y2 := HD.out.dd.has 2 _ rfl
    have y3 := HD.out.dd.has 3 _ rfl
    have y4 := HD.out.dd.has 4 _ rfl
    have yf := HD.out.dd.free
    have yl := HD.out.dd.lt
    have r0 := HD.out.r.has 0 _ rfl
    have r1 := HD.out.r.has 1 _ rfl
    have r2 := HD.out.r.has 2 _ rfl
    have r3 := HD.out.r.has 3 _ rfl
    have r4 := HD.out.r.has 4 _ rfl
    have rf := HD.out.r.free
    have rl := HD.out.r.lt
    have hDr := HD.out.hD
    have HEND := Lib.hid (end_deed HE.out.way (B := w.heap.size + 1) (by omega) (d.kind) (d.n) (who := t) (mill := d.mill) (to := d.to) HT.out HZ2.out HZ3.out HZ4.out)
    go_wp2
    exact bodyPost_ret (v := .agg #[.int .i64 (d.kind), .string t, .string d.mill, .string d.to, .int .i64 (d.n)]) (by simp [results, Tryz.results37, go_sem, r0, r1, r2, r3, r4]) rfl HEND.out
  · go_wp2_with fail
    refine (l2DrawAny_any HD.out.way.cur).mono ?_
    rintro e w5 ⟨t, ht, rfl, hc, hg⟩
    replace HD := Lib.hid (HD.out.draw hc hg)
    have HT := Lib.hid ht
    clear hc hg ht
    have HE := Lib.hid (HD.out.put (o := 2) (d' := { d with mill := t }) (v := .string t) rfl)
    have y0 := HD.out.dd.has 0 _ rfl
    have y1 := HD.out.dd.has 1 _ rfl
    have y2 := HD.out.dd.has 2 _ rfl
    have y3 := HD.out.dd.has 3 _ rfl
    have y4 := HD.out.dd.has 4 _ rfl
    have yf := HD.out.dd.free
    have yl := HD.out.dd.lt
    have r0 := HD.out.r.has 0 _ rfl
    have r1 := HD.out.r.has 1 _ rfl
    have r2 := HD.out.r.has 2 _ rfl
    have r3 := HD.out.r.has 3 _ rfl
    have r4 := HD.out.r.has 4 _ rfl
    have rf := HD.out.r.free
    have rl := HD.out.r.lt
    have hDr := HD.out.hD
    have HEND := Lib.hid (end_deed HE.out.way (B := w.heap.size + 1) (by omega) (d.kind) (d.n) (who := d.who) (mill := t) (to := d.to) HZ1.out HT.out HZ3.out HZ4.out)
    go_wp2
    exact bodyPost_ret (v := .agg #[.int .i64 (d.kind), .string d.who, .string t, .string d.to, .int .i64 (d.n)]) (by simp [results, Tryz.results37, go_sem, r0, r1, r2, r3, r4]) rfl HEND.out
  · go_wp2_with fail
    refine (l2DrawAny_any HD.out.way.cur).mono ?_
    rintro e w5 ⟨t, ht, rfl, hc, hg⟩
    replace HD := Lib.hid (HD.out.draw hc hg)
    have HT := Lib.hid ht
    clear hc hg ht
    have HE := Lib.hid (HD.out.put (o := 3) (d' := { d with to := t }) (v := .string t) rfl)
    have y0 := HD.out.dd.has 0 _ rfl
    have y1 := HD.out.dd.has 1 _ rfl
    have y2 := HD.out.dd.has 2 _ rfl
    have y3 := HD.out.dd.has 3 _ rfl
    have y4 := HD.out.dd.has 4 _ rfl
    have yf := HD.out.dd.free
    have yl := HD.out.dd.lt
    have r0 := HD.out.r.has 0 _ rfl
    have r1 := HD.out.r.has 1 _ rfl
    have r2 := HD.out.r.has 2 _ rfl
    have r3 := HD.out.r.has 3 _ rfl
    have r4 := HD.out.r.has 4 _ rfl
    have rf := HD.out.r.free
    have rl := HD.out.r.lt
    have hDr := HD.out.hD
    have HEND := Lib.hid (end_deed HE.out.way (B := w.heap.size + 1) (by omega) (d.kind) (d.n) (who := d.who) (mill := d.mill) (to := t) HZ1.out HZ2.out HT.out HZ4.out)
    go_wp2
    exact bodyPost_ret (v := .agg #[.int .i64 (d.kind), .string d.who, .string d.mill, .string t, .int .i64 (d.n)]) (by simp [results, Tryz.results37, go_sem, r0, r1, r2, r3, r4]) rfl HEND.out
  · go_wp2_with fail
    refine (l1Below_any 5 (HD.out.way.cur.kept (below_new _ _)) (by omega) (by omega)).mono ?_
    rintro e w5 ⟨y, ⟨hy, hy2⟩, rfl, hc, hg⟩
    have q0 := kept_cell (b := w4.heap.size) (o := 0) hg (by go_simp; rfl) (by have := HD.out.way.grown.size; omega)
    have q1 := kept_cell (b := w4.heap.size) (o := 1) hg (by go_simp; rfl) (by have := HD.out.way.grown.size; omega)
    have q2 := kept_cell (b := w4.heap.size) (o := 2) hg (by go_simp; rfl) (by have := HD.out.way.grown.size; omega)
    have q3 := kept_cell (b := w4.heap.size) (o := 3) hg (by go_simp; rfl) (by have := HD.out.way.grown.size; omega)
    have q4 := kept_cell (b := w4.heap.size) (o := 4) hg (by go_simp; rfl) (by have := HD.out.way.grown.size; omega)
    replace HD := Lib.hid ((HD.out.below (below_new _ _)).draw hc hg)
    clear hc hg
    have hy5 : y = 0 ∨ y = 1 ∨ y = 2 ∨ y = 3 ∨ y = 4 := by omega
    clear hy hy2
    rcases hy5 with rfl | rfl | rfl | rfl | rfl
    · have HE := Lib.hid (HD.out.put (o := 4) (d' := { d with n := -1 }) (v := .int .i64 (-1)) rfl)
      have y0 := HD.out.dd.has 0 _ rfl
      have y1 := HD.out.dd.has 1 _ rfl
      have y2 := HD.out.dd.has 2 _ rfl
      have y3 := HD.out.dd.has 3 _ rfl
      have y4 := HD.out.dd.has 4 _ rfl
      have yf := HD.out.dd.free
      have yl := HD.out.dd.lt
      have r0 := HD.out.r.has 0 _ rfl
      have r1 := HD.out.r.has 1 _ rfl
      have r2 := HD.out.r.has 2 _ rfl
      have r3 := HD.out.r.has 3 _ rfl
      have r4 := HD.out.r.has 4 _ rfl
      have rf := HD.out.r.free
      have rl := HD.out.r.lt
      have hDr := HD.out.hD
      have HEND := Lib.hid (end_deed HE.out.way (B := w.heap.size + 1) (by omega) (d.kind) (-1) (who := d.who) (mill := d.mill) (to := d.to) HZ1.out HZ2.out HZ3.out (by omega))
      go_wp2
      exact bodyPost_ret (v := .agg #[.int .i64 (d.kind), .string d.who, .string d.mill, .string d.to, .int .i64 (-1)]) (by simp [results, Tryz.results37, go_sem, r0, r1, r2, r3, r4]) rfl HEND.out
    · have HE := Lib.hid (HD.out.put (o := 4) (d' := { d with n := 0 }) (v := .int .i64 (0)) rfl)
      have y0 := HD.out.dd.has 0 _ rfl
      have y1 := HD.out.dd.has 1 _ rfl
      have y2 := HD.out.dd.has 2 _ rfl
      have y3 := HD.out.dd.has 3 _ rfl
      have y4 := HD.out.dd.has 4 _ rfl
      have yf := HD.out.dd.free
      have yl := HD.out.dd.lt
      have r0 := HD.out.r.has 0 _ rfl
      have r1 := HD.out.r.has 1 _ rfl
      have r2 := HD.out.r.has 2 _ rfl
      have r3 := HD.out.r.has 3 _ rfl
      have r4 := HD.out.r.has 4 _ rfl
      have rf := HD.out.r.free
      have rl := HD.out.r.lt
      have hDr := HD.out.hD
      have HEND := Lib.hid (end_deed HE.out.way (B := w.heap.size + 1) (by omega) (d.kind) (0) (who := d.who) (mill := d.mill) (to := d.to) HZ1.out HZ2.out HZ3.out (by omega))
      go_wp2
      exact bodyPost_ret (v := .agg #[.int .i64 (d.kind), .string d.who, .string d.mill, .string d.to, .int .i64 (0)]) (by simp [results, Tryz.results37, go_sem, r0, r1, r2, r3, r4]) rfl HEND.out
    · have HE := Lib.hid (HD.out.put (o := 4) (d' := { d with n := 101 }) (v := .int .i64 (101)) rfl)
      have y0 := HD.out.dd.has 0 _ rfl
      have y1 := HD.out.dd.has 1 _ rfl
      have y2 := HD.out.dd.has 2 _ rfl
      have y3 := HD.out.dd.has 3 _ rfl
      have y4 := HD.out.dd.has 4 _ rfl
      have yf := HD.out.dd.free
      have yl := HD.out.dd.lt
      have r0 := HD.out.r.has 0 _ rfl
      have r1 := HD.out.r.has 1 _ rfl
      have r2 := HD.out.r.has 2 _ rfl
      have r3 := HD.out.r.has 3 _ rfl
      have r4 := HD.out.r.has 4 _ rfl
      have rf := HD.out.r.free
      have rl := HD.out.r.lt
      have hDr := HD.out.hD
      have HEND := Lib.hid (end_deed HE.out.way (B := w.heap.size + 1) (by omega) (d.kind) (101) (who := d.who) (mill := d.mill) (to := d.to) HZ1.out HZ2.out HZ3.out (by omega))
      go_wp2
      exact bodyPost_ret (v := .agg #[.int .i64 (d.kind), .string d.who, .string d.mill, .string d.to, .int .i64 (101)]) (by simp [results, Tryz.results37, go_sem, r0, r1, r2, r3, r4]) rfl HEND.out
    · have HE := Lib.hid (HD.out.put (o := 4) (d' := { d with n := 999999999 }) (v := .int .i64 (999999999)) rfl)
      have y0 := HD.out.dd.has 0 _ rfl
      have y1 := HD.out.dd.has 1 _ rfl
      have y2 := HD.out.dd.has 2 _ rfl
      have y3 := HD.out.dd.has 3 _ rfl
      have y4 := HD.out.dd.has 4 _ rfl
      have yf := HD.out.dd.free
      have yl := HD.out.dd.lt
      have r0 := HD.out.r.has 0 _ rfl
      have r1 := HD.out.r.has 1 _ rfl
      have r2 := HD.out.r.has 2 _ rfl
      have r3 := HD.out.r.has 3 _ rfl
      have r4 := HD.out.r.has 4 _ rfl
      have rf := HD.out.r.free
      have rl := HD.out.r.lt
      have hDr := HD.out.hD
      have HEND := Lib.hid (end_deed HE.out.way (B := w.heap.size + 1) (by omega) (d.kind) (999999999) (who := d.who) (mill := d.mill) (to := d.to) HZ1.out HZ2.out HZ3.out (by omega))
      go_wp2
      exact bodyPost_ret (v := .agg #[.int .i64 (d.kind), .string d.who, .string d.mill, .string d.to, .int .i64 (999999999)]) (by simp [results, Tryz.results37, go_sem, r0, r1, r2, r3, r4]) rfl HEND.out
    · have HE := Lib.hid (HD.out.put (o := 4) (d' := { d with n := 1000000000 }) (v := .int .i64 (1000000000)) rfl)
      have y0 := HD.out.dd.has 0 _ rfl
      have y1 := HD.out.dd.has 1 _ rfl
      have y2 := HD.out.dd.has 2 _ rfl
      have y3 := HD.out.dd.has 3 _ rfl
      have y4 := HD.out.dd.has 4 _ rfl
      have yf := HD.out.dd.free
      have yl := HD.out.dd.lt
      have r0 := HD.out.r.has 0 _ rfl
      have r1 := HD.out.r.has 1 _ rfl
      have r2 := HD.out.r.has 2 _ rfl
      have r3 := HD.out.r.has 3 _ rfl
      have r4 := HD.out.r.has 4 _ rfl
      have rf := HD.out.r.free
      have rl := HD.out.r.lt
      have hDr := HD.out.hD
      have HEND := Lib.hid (end_deed HE.out.way (B := w.heap.size + 1) (by omega) (d.kind) (1000000000) (who := d.who) (mill := d.mill) (to := d.to) HZ1.out HZ2.out HZ3.out (by omega))
      go_wp2
      exact bodyPost_ret (v := .agg #[.int .i64 (d.kind), .string d.who, .string d.mill, .string d.to, .int .i64 (1000000000)]) (by simp [results, Tryz.results37, go_sem, r0, r1, r2, r3, r4]) rfl HEND.out
end Go.Proofs.YtoabpbdjffonlaaGreatDoor
namespace Go.Proofs.YtoabpbdjffonlaaGreatDoor
open Go.ChangeShapes Go.WideShapes Go.ChangeAt Go.RowKit

theorem undrew_b {w w2 : World} (h : Below w.drew.heap.size w.drew w2) : Below w.heap.size w w2 := ⟨h.os, h.tape, h.output, h.size, h.block⟩
theorem below_new' (w : World) (o : Obj) : Below w.heap.size w (w.alloc o) := (Below.refl _ _).alloc (Nat.le_refl _) _
/-- Bytes of the call's own, from a block's head on. -/
structure RowU (w : World) (B g c : Nat) (l : List UInt8) : Prop where
  cell : ∀ j (h : j < l.length), w.cell? ⟨g, j, none⟩ = some (.int .u8 (l[j].toNat : Int))
  free : ∀ j, j < l.length → w.frozen? ⟨g, j, none⟩ = false
  le : l.length ≤ c
  cm : c ≤ maxLen
  base : B ≤ g
  lt : g < w.heap.size
theorem RowU.grown {w w' : World} {B g c C : Nat} {l : List UInt8} (h : RowU w B g c l) (hg : w.grownBy w' (some C)) (hC : C < B) : RowU w' B g c l := by
  have hb : w'.heap[g]? = w.heap[g]? := hg.block g h.lt (by intro e; injection e with e; have := h.base; omega)
  exact ⟨fun j hj => (World.cell?_of_block hb).trans (h.cell j hj), fun j hj => (World.frozen?_of_block hb).trans (h.free j hj), h.le, h.cm, h.base, Nat.lt_of_lt_of_le h.lt hg.size⟩
theorem RowU.take {w : World} {B g c : Nat} {l : List UInt8} (h : RowU w B g c l) (k : Nat) : RowU w B g c (l.take k) :=
  ⟨fun j hj => by rw [List.getElem_take]; exact h.cell j (by rw [List.length_take] at hj; omega), fun j hj => h.free j (by rw [List.length_take] at hj; omega), by rw [List.length_take]; have := h.le; omega, h.cm, h.base, h.lt⟩
theorem RowU.set {w : World} {B g c k : Nat} {l : List UInt8} (h : RowU w B g c l) (x : UInt8) : RowU (w.setCell ⟨g, k, none⟩ (.int .u8 (x.toNat : Int))) B g c (l.set k x) := by
  refine ⟨fun j hj => ?_, fun j hj => by rw [World.frozen?_setCell]; exact h.free j (by simpa using hj), by rw [List.length_set]; exact h.le, h.cm, h.base, by have := h.lt; simpa [World.setCell] using this⟩
  rw [List.length_set] at hj
  rw [List.getElem_set]
  by_cases e : k = j
  · subst e
    rw [if_pos rfl, World.cell?_setCell_same _ _ _ (h.cell k hj)]
  · rw [if_neg e, World.cell?_setCell_other _ _ _ _ (by intro z; injection z with _ z; exact e z)]; exact h.cell j hj
theorem RowU.text {w : World} {B g c : Nat} {l : List UInt8} (h : RowU w B g c l) : (convert 22 9 (.slice (some ⟨g, 0, none⟩) l.length c)).run Tryz.prog w = .ok (.string ⟨l.toArray⟩) w :=
  run_convert_bytes_back w 22 9 5 ⟨g, 0, none⟩ c l (by kernel_rfl) (by kernel_rfl) (by kernel_rfl) (fun j hj => by
    have e : (⟨g, 0, none⟩ : Addr).add j = ⟨g, j, none⟩ := by rw [add_plain, Nat.zero_add]
    rw [e]; exact h.cell j hj)

theorem rowU_bytes (w : World) (s : ByteArray) (hs : s.size ≤ maxLen) :
    ∃ (c : Nat) (W : World), (convert 9 22 (.string s)).run Tryz.prog w = .ok (.slice (some ⟨w.heap.size, 0, none⟩) s.data.toList.length c) W ∧ RowU W w.heap.size w.heap.size c s.data.toList ∧ Below w.heap.size w W := by
  have hge := grownCap_ge w s.size 0 5
  have hle := grownCap_le_maxLen w s.size 0 5 hs
  have hsz : s.size ≤ (bytesRow s (grownCap w s.size 0 5)).size := by unfold bytesRow; rw [Array.size_append, Array.size_map]; exact Nat.le_add_right _ _
  refine ⟨_, _, run_bytes_of_string w 9 22 5 s (by kernel_rfl) (by kernel_rfl) (by kernel_rfl), ⟨fun j hj => ?_, fun j hj => ?_, hge, hle, Nat.le_refl _, ?_⟩, undrew_b (below_new' _ _)⟩
  · have hj' : j < s.data.size := hj
    exact (World.cell?_alloc_mark w.drew _ _ _ j).trans (bytesRow_at s _ j hj')
  · refine (World.frozen?_alloc_mark w.drew _ _ _ _ j).trans ?_
    have hj' : j < s.size := hj
    simp; omega
  · show w.heap.size < (w.heap.push _).size; rw [Array.size_push]; omega
def u8s (l : List UInt8) : List Value := l.map fun x => .int .u8 (x.toNat : Int)
theorem u8s_one (l : List UInt8) : ∀ u ∈ u8s l, u.oneCell' = true := by
  intro u hu
  obtain ⟨x, _, rfl⟩ := List.mem_map.1 hu
  rfl
theorem RowU.news {w W : World} {B g c q : Nat} {l : List UInt8} (h : RowU w B g c l) (hb : Below w.heap.size w W) : ∀ j u, (u8s (l.take q))[j]? = some u → W.cell? ((⟨g, 0, none⟩ : Addr).add j) = some u := by
  intro j u hj
  rw [u8s, List.getElem?_map] at hj
  obtain ⟨x, hx, rfl⟩ := Option.map_eq_some_iff.1 hj
  have hlt := (List.getElem?_eq_some_iff.1 hx).1
  rw [List.length_take] at hlt
  rw [List.getElem?_take_of_lt (by omega), List.getElem?_eq_getElem (by omega)] at hx
  have hx := Option.some.inj hx
  subst hx
  rw [add_plain, Nat.zero_add, hb.cell (p := ⟨g, j, none⟩) h.lt]
  exact h.cell j (by omega)
theorem RowU.drop {w : World} {B g c q : Nat} {l : List UInt8} (h : RowU w B g c l) (hq : q ≤ l.length) :
    ∃ A, (if c = q then some (⟨g, 0, none⟩ : Addr) else some ⟨g, q, none⟩) = some A ∧ ∀ W, Below w.heap.size w W → ∀ j u, (u8s (l.drop q))[j]? = some u → W.cell? (A.add j) = some u := by
  have hle := h.le
  by_cases e : c = q
  · refine ⟨_, if_pos e, fun W _ j u hj => ?_⟩
    have : l.drop q = [] := List.drop_eq_nil_of_le (by omega)
    rw [this] at hj; simp [u8s] at hj
  · refine ⟨_, if_neg e, fun W hb j u hj => ?_⟩
    rw [u8s, List.getElem?_map] at hj
    obtain ⟨x, hx, rfl⟩ := Option.map_eq_some_iff.1 hj
    rw [List.getElem?_drop] at hx
    obtain ⟨hlt, rfl⟩ := List.getElem?_eq_some_iff.1 hx
    rw [add_plain, hb.cell (p := ⟨g, q + j, none⟩) h.lt]
    exact h.cell (q + j) hlt
theorem RowU.of_own {w : World} {B g c n : Nat} {l : List UInt8} (h : w.ownsRow B 5 1 (.slice (some ⟨g, 0, none⟩) n c) n (u8s l)) : RowU w B g c l ∧ n = l.length := by
  have hn : l.length = n := by have := h.1; rw [u8s, List.length_map] at this; omega
  rcases h.2 with ⟨h0, -⟩ | ⟨g', cap', cur, hv, hg, hh, hle, hm, hs, ht⟩
  · simp at h0
  · injection hv with e1 _ e3
    injection e1 with e1
    injection e1 with e1
    subst e1; subst e3
    refine ⟨⟨fun j hj => ?_, fun j hj => ?_, by omega, hm, hg, (Array.getElem?_eq_some_iff.1 hh).1⟩, hn.symm⟩
    · have h1 : (cur.toList.take (n * 1))[j]? = some (.int .u8 (l[j].toNat : Int)) := by
        rw [ht, u8s, List.getElem?_map, List.getElem?_eq_getElem hj]; rfl
      rw [List.getElem?_take_of_lt (by omega)] at h1
      simpa [World.cell?, hh] using h1
    · simp [World.frozen?, hh]
theorem u8s_append (a b : List UInt8) : u8s (a ++ b) = u8s a ++ u8s b := List.map_append
theorem RowU.mono {w : World} {B B' g c : Nat} {l : List UInt8} (h : RowU w B g c l) (hB : B' ≤ B) : RowU w B' g c l := ⟨h.cell, h.free, h.le, h.cm, Nat.le_trans hB h.base, h.lt⟩
theorem RowU.below {w w' : World} {B g c : Nat} {l : List UInt8} (h : RowU w B g c l) (hb : Below w.heap.size w w') : RowU w' B g c l :=
  ⟨fun j hj => (hb.cell (p := ⟨g, j, none⟩) h.lt).trans (h.cell j hj), fun j hj => (hb.frozen (p := ⟨g, j, none⟩) h.lt).trans (h.free j hj), h.le, h.cm, h.base, Nat.lt_of_lt_of_le h.lt hb.size⟩
theorem RowU.apart {w w' : World} {B g c x : Nat} {l : List UInt8} (h : RowU w B g c l) (hg : w.grownBy w' (some x)) (hx : x ≠ g) : RowU w' B g c l := by
  have hb : w'.heap[g]? = w.heap[g]? := hg.block g h.lt (by intro e; injection e with e; exact hx e.symm)
  exact ⟨fun j hj => (World.cell?_of_block hb).trans (h.cell j hj), fun j hj => (World.frozen?_of_block hb).trans (h.free j hj), h.le, h.cm, h.base, Nat.lt_of_lt_of_le h.lt hg.size⟩
theorem RowU.rest {w : World} {B g c q : Nat} {l : List UInt8} {A : Addr} (h : RowU w B g c l) (hq : q ≤ l.length) (hA : (if c = q then some (⟨g, 0, none⟩ : Addr) else some ⟨g, q, none⟩) = some A) :
    ∀ j u, (u8s (l.drop q))[j]? = some u → w.cell? (A.add j) = some u := by
  obtain ⟨A2, hA2, hn⟩ := h.drop hq
  have e := hA.symm.trans hA2
  injection e with e
  subst e
  exact hn w (Below.refl _ _)
theorem one_new (w : World) (x : UInt8) : ∀ j u, (u8s [x])[j]? = some u → (w.alloc (.cells #[.int .u8 (x.toNat : Int)] 5)).cell? ((⟨w.heap.size, 0, none⟩ : Addr).add j) = some u := by
  intro j u hj
  match j, hj with
  | 0, hj =>
    have := Option.some.inj hj
    subst this
    rw [add_plain]
    exact World.cell?_alloc_mark w _ _ _ 0
  | j + 1, hj => simp [u8s] at hj
theorem info_u8 : (Tryz.prog.info? 5).map (fun i => (i.zero, i.size, i.bytes)) = some (some (.int .u8 0), 1, 1) := by kernel_rfl
/-- What l1Bend hands back. -/
def BendS (C : Nat) (a : Option Addr) (len cap M : Nat) (w : World) (e : Ending) (w' : World) : Prop :=
  ∃ t : ByteArray, t.size ≤ M ∧ e = .returned (.string t) ∧ Cur w' C a len cap ∧ w.grownBy w' (some C)
def BendRel (C : Nat) (a : Option Addr) (len cap M : Nat) (w : World) (v nv : Value) (wr : World) : Prop :=
  ∃ (g c k : Nat) (l : List UInt8), v = .slice (some ⟨g, 0, none⟩) l.length c ∧ nv = .int .i64 k ∧ RowU wr w.heap.size g c l ∧ l.length + k ≤ M ∧ Cur wr C a len cap ∧ w.grownBy wr (some C)

set_option maxHeartbeats 8000000 in
set_option maxRecDepth 100000 in
theorem l1Bend_any {C : Nat} {a : Option Addr} {len cap : Nat} {w : World} (s signs : ByteArray) (h : Cur w C a len cap) (hs : s.size ≤ 1048576) (h1 : 1 ≤ signs.size) (h2 : signs.size ≤ 1048576) :
    Calls Tryz.prog 23 #[.pointer (some ⟨C, 0, none⟩), .string s, .string signs] w (BendS C a len cap (s.size + 2) w) := by
  obtain ⟨i0, hi, hz0, hz1, hz2⟩ := info_parts info_u8
  have HI := Lib.hid hi
  have HZ0 := Lib.hid hz0
  have HZ1 := Lib.hid hz1
  have HZ2 := Lib.hid hz2
  clear hi hz0 hz1 hz2
  have hC : C < w.heap.size := lt_of_cell h.c0
  have HO := Lib.hid h.old
  have HC := Lib.hid h
  clear h
  go_enter Tryz.func23, Tryz.ntmps23
  go_wp2_with fail
  obtain ⟨c0, W1, hcv, hr0, hb0⟩ := rowU_bytes w s (by unfold maxLen; omega)
  rw [hcv]
  clear hcv
  have HR0 := Lib.hid hr0
  have HC1 := Lib.hid (HC.out.kept hb0)
  have HG1 := Lib.hid (below_grown hb0 (some C))
  clear hr0 hb0
  go_wp2_with fail
  refine (l1Below_any 3 HC1.out (by omega) (by omega)).mono ?_
  rintro e w2 ⟨x, ⟨hx, hx2⟩, rfl, hc2, hg2⟩
  obtain ⟨k0, rfl⟩ : ∃ k : Nat, x = k := ⟨x.toNat, by omega⟩
  have HREL := Lib.hid (show BendRel C a len cap (s.size + 2) w (.slice (some ⟨w.heap.size, 0, none⟩) s.data.toList.length c0) (.int .i64 k0) w2 from
    ⟨w.heap.size, c0, k0, s.data.toList, rfl, rfl, HR0.out.grown hg2 hC, by have : s.data.toList.length = s.size := rfl; omega, hc2, grown_step HG1.out hg2⟩)
  clear hc2 hg2 HR0 HC1 HG1 hx hx2
  go_wp2_with fail
  go_loopw [7, 8] (fun v nv wr => BendRel C a len cap (s.size + 2) w v nv wr) (fun _ nv _ => (intOf nv).toNat)
  case atStart => exact HREL.out
  case round =>
    clear HREL
    obtain ⟨g, c, k, l, rfl, rfl, hrow, hlk, hcur, hgr⟩ := hrel
    have HW := Lib.hid hrow
    have HU := Lib.hid hcur
    have HG := Lib.hid hgr
    have hle := hrow.le
    have hcm : c ≤ 9223372036854775807 := hrow.cm
    clear hrow hcur hgr
    have HT := Lib.hid (HW.out.text)
    have HZ := Lib.hid (show (⟨l.toArray⟩ : ByteArray).size ≤ s.size + 2 by show l.toArray.size ≤ _; simp; omega)
    by_cases hk0 : k = 0
    · subst hk0
      go_wp2_with fail
      rw [HT.out]
      go_wp2
      go_ret
      exact ⟨_, HZ.out, rfl, HU.out, HG.out⟩
    by_cases hl0 : l.length = 0
    · obtain rfl : l = [] := List.length_eq_zero_iff.mp hl0
      have HT0 := Lib.hid (show (convert 22 9 (.slice (some ⟨g, 0, none⟩) 0 c)).run Tryz.prog wr = .ok (.string ⟨([] : List UInt8).toArray⟩) wr from HT.out)
      have hkp : (0 : Int) < k := by omega
      go_wp2_with fail
      rw [HT0.out]
      go_wp2
      go_ret
      exact ⟨_, HZ.out, rfl, HU.out, HG.out⟩
    clear HT HZ
    obtain ⟨k, rfl⟩ : ∃ k', k = k' + 1 := ⟨k - 1, by omega⟩
    have hl1 : 1 ≤ l.length := by omega
    clear hk0 hl0
    go_wp2_with fail
    refine (l1Below_any l.length HU.out (by omega) (by omega)).mono ?_
    rintro e w3 ⟨x, ⟨hx, hx2⟩, rfl, hc3, hg3⟩
    obtain ⟨q, rfl⟩ : ∃ q : Nat, x = q := ⟨x.toNat, by omega⟩
    have hq : q < l.length := by omega
    have HW3 := Lib.hid (HW.out.grown hg3 hC)
    have HU3 := Lib.hid hc3
    have HG3 := Lib.hid (grown_step HG.out hg3)
    clear hc3 hg3 HW HU HG hx hx2
    go_wp2_with fail
    refine (l1Below_any 4 HU3.out (by omega) (by omega)).mono ?_
    rintro e w4 ⟨x, ⟨hx, hx2⟩, rfl, hc4, hg4⟩
    have HW4 := Lib.hid (HW3.out.grown hg4 hC)
    have HU4 := Lib.hid hc4
    have HG4 := Lib.hid (grown_step HG3.out hg4)
    clear hc4 hg4 HW3 HU3 HG3
    have hx4 : x = 0 ∨ x = 1 ∨ x = 2 ∨ x = 3 := by omega
    clear hx hx2
    rcases hx4 with rfl | rfl | rfl | rfl
    · go_wp2_with fail
      refine (l1Below_any signs.size HU4.out (by omega) (by omega)).mono ?_
      rintro e w5 ⟨x, ⟨hx, hx2⟩, rfl, hc5, hg5⟩
      obtain ⟨z, rfl⟩ : ∃ z : Nat, x = z := ⟨x.toNat, by omega⟩
      have hz : z < signs.size := by omega
      have HW5 := Lib.hid (HW4.out.grown hg5 hC)
      have cq := HW5.out.cell q hq
      have fq := HW5.out.free q hq
      have gl := HW5.out.lt
      have HW6 := Lib.hid (HW5.out.set (k := q) signs[z])
      have hCg : g ≠ C := by have := HW5.out.base; omega
      have hw5 : w.heap.size ≤ g := HW5.out.base
      have hgs := gset (o := q) (gid w5 (some g)) (.int .u8 (signs[z].toNat : Int))
      have HU6 := Lib.hid (hc5.own (B := w.heap.size) hgs (by intro y hy; injection hy with hy; omega) hC HO.out)
      have HG6 := Lib.hid (grown_own (grown_step HG4.out hg5) hgs (by intro y hy; injection hy with hy; omega))
      clear hgs
      clear hc5 hg5 hx hx2
      go_wp2
      go_roundw
      case rel => exact ⟨g, c, k, l.set q signs[z], by rw [List.length_set], by go_num, HW6.out, by rw [List.length_set]; omega, HU6.out, HG6.out⟩
      case measure => first | (simp [intOf]; done) | (simp [intOf]; omega)
    · have HW6 := Lib.hid (HW4.out.take q)
      have hqc : q ≤ c := by omega
      go_wp2
      go_roundw
      case rel => exact ⟨g, c, k, l.take q, by rw [List.length_take, Nat.min_eq_left (by omega)], by go_num, HW6.out, by rw [List.length_take]; omega, HU4.out, HG4.out⟩
      case measure => first | (simp [intOf]; done) | (simp [intOf]; omega)
    · obtain ⟨AD, hA, hnw⟩ := HW4.out.drop (q := q + 1) (by omega)
      have HNW := Lib.hid hnw
      have hqc : q ≤ c := by omega
      have hqc1 : q + 1 ≤ c := by omega
      have hqi : (q : Int) + 1 ≤ l.length := by omega
      have hq0 : (0 : Int) ≤ (q : Int) + 1 := by omega
      have hwq : IntKind.i64.wrap ((q : Int) + 1) = (q : Int) + 1 := IntWalk.i64_in _ (by omega)
      have htn : ((q : Int) + 1).toNat = q + 1 := by omega
      have hw4 : w.heap.size ≤ w4.heap.size := HG4.out.size
      have HO0 := Lib.hid (show (w4.drew.alloc (.cells #[] 5)).ownsRow w4.heap.size 5 1 (.slice (some ⟨w4.heap.size, 0, none⟩) 0 0) 0 [] from
        ⟨by simp, .inr ⟨w4.heap.size, 0, #[], rfl, Nat.le_refl _, heap_alloc_new _ _, Nat.le_refl _, Nat.zero_le _, by simp, by simp⟩⟩)
      have HB0 := Lib.hid (show Below w4.heap.size w4 (w4.drew.alloc (.cells #[] 5)) from undrew_b (below_new' w4.drew _))
      clear hnw
      go_wp2_with fail
      go_region_law (first
        | (refine step_append_some rfl (.tmp 47) (.tmp 50) 22 rfl w4.heap.size 5 i0 (.int .u8 0) 1 1 Tryz.underlying22 HI.out HZ0.out HZ1.out HZ2.out rfl (by decide) w4.heap.size 0 0 [] (by simp [Act.eval]) HO0.out ⟨g, 0, none⟩ q c (u8s (l.take q)) (by simp [Act.eval]) (by simp [u8s]; omega) (HW4.out.news HB0.out) (u8s_one _) (by unfold maxLen; omega) (by omega) ?_; rintro g5 c5 w5 ⟨h5, h5g, h5b, h5l, h5x⟩; have HO5 := Lib.hid h5; have HB5 := Lib.hid (bgrown HB0.out HB0.out.size h5g (by intro z hz; injection hz with hz; omega)); clear h5 h5g h5b h5l h5x)
        | (refine step_append_some rfl (.tmp 51) (.tmp 55) 22 rfl w4.heap.size 5 i0 (.int .u8 0) 1 1 Tryz.underlying22 HI.out HZ0.out HZ1.out HZ2.out rfl (by decide) g5 c5 (0 + q) ([] ++ u8s (l.take q)) (by simp [Act.eval]) HO5.out AD (l.length - (q + 1)) (c - (q + 1)) (u8s (l.drop (q + 1))) (by simp [Act.eval]) (by simp [u8s]) (HNW.out _ HB5.out) (u8s_one _) (by unfold maxLen; omega) (by omega) ?_; rintro g6 c6 w6 ⟨h6, h6g, h6b, h6l, h6x⟩; have HO6 := Lib.hid h6; have HB6 := Lib.hid (bgrown HB5.out HB5.out.size h6g (by intro z hz; injection hz with hz; omega)); clear h6 h6g h6b h6l h6x))
      all_goals
        have HRO := RowU.of_own (l := l.take q ++ l.drop (q + 1)) (by rw [u8s_append]; exact HO6.out)
        have HW6 := Lib.hid (HRO.1.mono hw4)
        have HLN := Lib.hid (show q + (l.length - (q + 1)) = (l.take q ++ l.drop (q + 1)).length by have := HRO.2; omega)
        have HU6 := Lib.hid (HU4.out.kept HB6.out)
        have HG6 := Lib.hid (grown_step HG4.out (below_grown HB6.out (some C)))
        clear HRO
        go_wp2
        go_roundw
        case rel => exact ⟨g6, c6, k, l.take q ++ l.drop (q + 1), by first | rw [HLN.out] | (rw [← HLN.out]; simp), by go_num, HW6.out, by rw [← HLN.out]; omega, HU6.out, HG6.out⟩
        case measure => first | (simp [intOf]; done) | (simp [intOf]; omega)
    · obtain ⟨AD, hA, -⟩ := HW4.out.drop (q := q) (by omega)
      have HA := Lib.hid hA
      have hqc : q ≤ c := by omega
      have hqi : (q : Int) ≤ l.length := by omega
      have hw4 : w.heap.size ≤ w4.heap.size := HG4.out.size
      have hgl := HW4.out.lt
      have HO0 := Lib.hid (show (w4.drew.alloc (.cells #[] 5)).ownsRow w4.heap.size 5 1 (.slice (some ⟨w4.heap.size, 0, none⟩) 0 0) 0 [] from
        ⟨by simp, .inr ⟨w4.heap.size, 0, #[], rfl, Nat.le_refl _, heap_alloc_new _ _, Nat.le_refl _, Nat.zero_le _, by simp, by simp⟩⟩)
      have HB0 := Lib.hid (show Below w4.heap.size w4 (w4.drew.alloc (.cells #[] 5)) from undrew_b (below_new' w4.drew _))
      go_wp2_with fail
      go_region_law (first
        | (refine step_append_some rfl (.tmp 59) (.tmp 62) 22 rfl w4.heap.size 5 i0 (.int .u8 0) 1 1 Tryz.underlying22 HI.out HZ0.out HZ1.out HZ2.out rfl (by decide) w4.heap.size 0 0 [] (by simp [Act.eval]) HO0.out ⟨g, 0, none⟩ q c (u8s (l.take q)) (by simp [Act.eval]) (by simp [u8s]; omega) (HW4.out.news HB0.out) (u8s_one _) (by unfold maxLen; omega) (by omega) ?_; rintro g5 c5 w5 ⟨h5, h5g, h5b, h5l, h5x⟩; have HO5 := Lib.hid h5; have HB5 := Lib.hid (bgrown HB0.out HB0.out.size h5g (by intro z hz; injection hz with hz; omega)); have hg5 : w4.heap.size ≤ g5 := (own_some h5).2.2.2.1; clear h5 h5g h5b h5l h5x)
        | (refine step_append_some rfl (.tmp 63) (.tmp 70) 22 rfl w4.heap.size 5 i0 (.int .u8 0) 1 1 Tryz.underlying22 HI.out HZ0.out HZ1.out HZ2.out rfl (by decide) g5 c5 (0 + q) ([] ++ u8s (l.take q)) (by simp [Act.eval]) HO7.out ⟨w6.heap.size, 0, none⟩ 1 1 (u8s [signs[z]]) (by simp [Act.eval]) rfl HN7.out (u8s_one _) (by unfold maxLen; omega) (by omega) ?_; rintro g8 c8 w8 ⟨h8, h8g, h8b, h8l, h8x⟩; have HO8 := Lib.hid h8; have HW8 := Lib.hid (HW7.out.apart h8g (by omega)); have HU8 := Lib.hid (HU7.out.own (B := w.heap.size) h8g (by intro y hy; injection hy with hy; omega) hC HO.out); have HG8 := Lib.hid (grown_own HG7.out h8g (by intro y hy; injection hy with hy; omega)); have hg8 : w4.heap.size ≤ g8 := (own_some h8).2.2.2.1; clear h8 h8g h8b h8l h8x)
        | (refine step_append_some rfl (.tmp 71) (.tmp 74) 22 rfl w4.heap.size 5 i0 (.int .u8 0) 1 1 Tryz.underlying22 HI.out HZ0.out HZ1.out HZ2.out rfl (by decide) g8 c8 (0 + q + 1) ([] ++ u8s (l.take q) ++ u8s [signs[z]]) (by simp [Act.eval]) HO8.out AD (l.length - q) (c - q) (u8s (l.drop q)) (by simp [Act.eval]) (by simp [u8s]) (HW8.out.rest (by omega) HA.out) (u8s_one _) (by unfold maxLen; omega) (by omega) ?_; rintro g9 c9 w9 ⟨h9, h9g, h9b, h9l, h9x⟩; have HO9 := Lib.hid h9; have HU9 := Lib.hid (HU8.out.own (B := w.heap.size) h9g (by intro y hy; injection hy with hy; omega) hC HO.out); have HG9 := Lib.hid (grown_own HG8.out h9g (by intro y hy; injection hy with hy; omega)); clear h9 h9g h9b h9l h9x)
        | (go_simp; go_at_call 26; (refine (l1Below_any signs.size (HU4.out.kept HB5.out) (by omega) (by omega)).mono ?_); rintro e w6 ⟨x, ⟨hx, hx2⟩, rfl, hc6, hg6⟩; obtain ⟨z, rfl⟩ : ∃ z : Nat, x = z := (⟨x.toNat, by omega⟩); have hzi : (z : Int) < signs.size := (by omega); have hz0 : (0 : Int) ≤ z := (by omega); have hz : z < signs.size := (by omega); have HO7 := Lib.hid ((own_grown HO5.out hg6 (fun y hy => by intro e; injection e with e; omega)).alloc (.cells #[.int .u8 (signs[z].toNat : Int)] 5)); have hbn := below_new' w6 (.cells #[.int .u8 (signs[z].toNat : Int)] 5); have HW7 := Lib.hid (((HW4.out.below HB5.out).grown hg6 hC).below hbn); have HU7 := Lib.hid (hc6.kept hbn); have HG7 := Lib.hid (grown_new (grown_step (grown_step HG4.out (below_grown HB5.out (some C))) hg6) (.cells #[.int .u8 (signs[z].toNat : Int)] 5)); have HN7 := Lib.hid (one_new w6 signs[z]); clear hc6 hg6 hbn hx hx2))
      all_goals
        have HRO := RowU.of_own (l := l.take q ++ [signs[z]] ++ l.drop q) (by rw [u8s_append, u8s_append]; exact HO9.out)
        have HW9 := Lib.hid (HRO.1.mono hw4)
        have HLN := Lib.hid (show q + 1 + (l.length - q) = (l.take q ++ [signs[z]] ++ l.drop q).length by have := HRO.2; omega)
        clear HRO
        go_wp2
        go_roundw
        case rel => exact ⟨g9, c9, k, l.take q ++ [signs[z]] ++ l.drop q, by first | rw [HLN.out] | (rw [← HLN.out]; simp), by go_num, HW9.out, by rw [← HLN.out]; omega, HU9.out, HG9.out⟩
        case measure => first | (simp [intOf]; done) | (simp [intOf]; omega)
end Go.Proofs.YtoabpbdjffonlaaGreatDoor
namespace Go.Proofs.YtoabpbdjffonlaaGreatDoor
open Go.ChangeShapes Go.WideShapes Go.ChangeAt Go.RowKit

set_option maxHeartbeats 4000000 in
set_option maxRecDepth 100000 in
theorem l1Words_any {w : World} {a : Option Addr} {ss : List ByteArray} (cap : Nat) (sep : ByteArray) (h : Strs w a ss) (hl : ss.length ≤ 100) (hm : ∀ x ∈ ss, x.size ≤ 100) (hb : sep.size ≤ 10) :
    Calls Tryz.prog 27 #[.slice a ss.length cap, .string sep] w fun e w' => ∃ t : ByteArray, t.size ≤ 110 * ss.length ∧ e = .returned (.string t) ∧ w = w' := by
  have H := Lib.hid h
  have HM := Lib.hid hm
  clear h hm
  go_enter Tryz.func27, Tryz.ntmps27
  go_wp2
  go_loop [5, 6] (fun v i => ∃ (k : Nat) (t : ByteArray), k ≤ ss.length ∧ i = .int .i64 k ∧ v = .string t ∧ t.size ≤ 110 * k) (fun _ i => ss.length - (intOf i).toNat)
  case atStart => exact ⟨0, ByteArray.empty, Nat.zero_le _, rfl, rfl, Nat.zero_le _⟩
  case round =>
    obtain ⟨k, t, hk, rfl, rfl, ht⟩ := hrel
    by_cases hlt : k < ss.length
    · obtain ⟨b, off, rfl, hc⟩ := strs_sat H.out k hlt
      have hx : (sat ss k).size ≤ 100 := by rw [sat_eq hlt]; exact HM.out _ (List.getElem_mem hlt)
      by_cases h0 : k = 0
      · subst h0
        have hc' : w.cell? ⟨b, off, none⟩ = some (.string (sat ss 0)) := hc
        go_wp2
        go_round
        case rel => exact ⟨1, _, by omega, by go_num, rfl, by simp only [ByteArray.size_append]; omega⟩
        case measure => first | (simp [intOf]; done) | (simp [intOf]; omega)
      · have hki : (0 : Int) < k := by omega
        go_wp2
        go_round
        case rel => exact ⟨k + 1, _, by omega, by go_num, rfl, by simp only [ByteArray.size_append]; omega⟩
        case measure => first | (simp [intOf]; done) | (simp [intOf]; omega)
    · obtain rfl : k = ss.length := by omega
      go_wp2
      go_ret
      exact ⟨t, ht, rfl, rfl⟩
end Go.Proofs.YtoabpbdjffonlaaGreatDoor
namespace Go.Proofs.YtoabpbdjffonlaaGreatDoor
open Go.ChangeShapes Go.WideShapes Go.ChangeAt Go.RowKit

end Go.Proofs.YtoabpbdjffonlaaGreatDoor
namespace Go.Proofs.YtoabpbdjffonlaaGreatDoor
open Go.Lib

/-- The digits of a number, none for 0. -/
def digL (u : Nat) : List UInt8 := if u = 0 then [] else decDigits u
theorem digs_zero : digL 0 = [] := rfl
theorem digs_pos {u : Nat} (h : u ≠ 0) : digL u = decDigits u := if_neg h
theorem dec_digs (u : Nat) : decDigits u = digL (u / 10) ++ [UInt8.ofNat (48 + u % 10)] := by
  rw [decDigits]
  by_cases h : u < 10
  · have h0 : u / 10 = 0 := by omega
    have h1 : u % 10 = u := by omega
    rw [dif_pos h, h0, h1]; rfl
  · rw [dif_neg h, digs_pos (by omega)]
theorem dec_zero : decDigits 0 = [48] := by rw [dec_digs]; rfl
theorem dec_ne (u : Nat) : decDigits u ≠ [] := by rw [dec_digs]; simp
/-- The text of a number. -/
def itoaB (n : Int) : ByteArray := ⟨(itoa n).toArray⟩
/-- What a list of digits is worth. -/
def valL (l : List UInt8) : Nat := l.foldl (fun n c => n * 10 + (c.toNat - 48)) 0
def isDig (c : UInt8) : Bool := decide (48 ≤ c.toNat ∧ c.toNat ≤ 57)
theorem digB_true {c : UInt8} (h : isDig c = true) : 48 ≤ c.toNat ∧ c.toNat ≤ 57 := by simpa [isDig] using h
theorem valL_snoc (l : List UInt8) (c : UInt8) : valL (l ++ [c]) = valL l * 10 + (c.toNat - 48) := by simp [valL]
theorem valL_lt : ∀ (n : Nat) (l : List UInt8), l.length = n → l.all isDig = true → valL l < 10 ^ n := by
  intro n
  induction n with
  | zero => intro l hl _; rw [List.length_eq_zero_iff.mp hl]; decide
  | succ n ih =>
    intro l hl h
    obtain ⟨r, c, rfl⟩ : ∃ r c, l = r ++ [c] := ⟨l.dropLast, l.getLast (by intro e; subst e; simp at hl), (List.dropLast_concat_getLast _).symm⟩
    simp only [List.all_append, List.all_cons, List.all_nil, Bool.and_true, Bool.and_eq_true] at h
    have h1 := ih r (by simpa using hl) h.1
    have h2 := digB_true h.2
    rw [valL_snoc]; omega
theorem digOf (c : UInt8) (h : isDig c = true) : UInt8.ofNat (48 + (c.toNat - 48)) = c := by
  have h2 := digB_true h
  have : 48 + (c.toNat - 48) = c.toNat := by omega
  rw [this]; simp
theorem digs_valL : ∀ (n : Nat) (l : List UInt8), l.length = n → l.all isDig = true → l.head? ≠ some 48 → digL (valL l) = l ∧ (l ≠ [] → valL l ≠ 0) := by
  intro n
  induction n with
  | zero => intro l hl _ _; rw [List.length_eq_zero_iff.mp hl]; exact ⟨rfl, fun h => absurd rfl h⟩
  | succ n ih =>
    intro l hl h h0
    obtain ⟨r, c, rfl⟩ : ∃ r c, l = r ++ [c] := ⟨l.dropLast, l.getLast (by intro e; subst e; simp at hl), (List.dropLast_concat_getLast _).symm⟩
    simp only [List.all_append, List.all_cons, List.all_nil, Bool.and_true, Bool.and_eq_true] at h
    have hr : r.head? ≠ some 48 := by
      cases r with
      | nil => simp
      | cons a r => simpa using h0
    have ⟨h1, h3⟩ := ih r (by simpa using hl) h.1 hr
    have h2 := digB_true h.2
    have hne : valL (r ++ [c]) ≠ 0 := by
      rw [valL_snoc]
      cases r with
      | nil =>
        have : c ≠ 48 := by simpa using h0
        have : c.toNat ≠ 48 := fun e => this (by rw [← UInt8.toNat_inj]; simpa using e)
        simp [valL]; omega
      | cons a r => have := h3 (by simp); omega
    refine ⟨?_, fun _ => hne⟩
    rw [digs_pos hne, dec_digs, valL_snoc]
    have e1 : (valL r * 10 + (c.toNat - 48)) / 10 = valL r := by omega
    have e2 : (valL r * 10 + (c.toNat - 48)) % 10 = c.toNat - 48 := by omega
    rw [e1, e2, h1, digOf c h.2]
theorem digB_of (d : Nat) (h : d < 10) : isDig (UInt8.ofNat (48 + d)) = true ∧ (UInt8.ofNat (48 + d)).toNat = 48 + d := by
  have : (UInt8.ofNat (48 + d)).toNat = 48 + d := by rw [UInt8.toNat_ofNat']; omega
  refine ⟨?_, this⟩
  simp only [isDig, this]; simp; omega
theorem dec_val (u : Nat) : valL (decDigits u) = u ∧ (decDigits u).all isDig = true ∧ ((decDigits u).head? = some 48 → u = 0) := by
  induction u using Nat.strongRecOn with
  | _ u ih =>
    rw [dec_digs]
    have ⟨hd, hn⟩ := digB_of (u % 10) (by omega)
    by_cases h : u / 10 = 0
    · rw [h, digs_zero]
      simp only [List.nil_append, List.all_cons, hd, List.all_nil, Bool.and_self, List.head?_cons]
      refine ⟨?_, trivial, fun e => ?_⟩
      · show 0 * 10 + _ = _; rw [hn]; omega
      · have := congrArg UInt8.toNat (Option.some.inj e)
        rw [hn] at this
        have h48 : (48 : UInt8).toNat = 48 := rfl
        omega
    · rw [digs_pos h]
      have ⟨h1, h2, h3⟩ := ih (u / 10) (by omega)
      rw [valL_snoc, h1, hn]
      refine ⟨by omega, by rw [List.all_append, h2]; simpa using hd, fun e => ?_⟩
      rw [List.head?_append] at e
      cases hc : (decDigits (u / 10)).head? with
      | none => rw [List.head?_eq_none_iff] at hc; exact absurd hc (dec_ne _)
      | some a =>
        rw [hc] at e h3
        have : a = 48 := by simpa using e
        subst this
        exact absurd (h3 rfl) h
theorem dec_len {u k : Nat} (h : u < 10 ^ (k + 1)) : (decDigits u).length ≤ k + 1 := by
  induction k generalizing u with
  | zero => rw [dec_digs]; have : u / 10 = 0 := by omega
            rw [this, digs_zero]; simp
  | succ k ih =>
    rw [dec_digs]
    by_cases h0 : u / 10 = 0
    · rw [h0, digs_zero]; simp
    · rw [digs_pos h0]
      have := ih (u := u / 10) (by rw [Nat.pow_succ] at h; omega)
      simp; omega

/-- A number as it is read: of just its own form, at most 9 digits. -/
def readL (s : List UInt8) : Option Int :=
  let neg := s.head? == some 45
  let t := if neg then s.tail else s
  if t.length < 1 ∨ 9 < t.length then none else if t.all isDig = false then none
  else if t.head? = some 48 ∧ (neg = true ∨ 1 < s.length) then none else some (if neg then -(valL t : Int) else valL t)
theorem readL_itoa {n : Int} (h1 : -1000000000 < n) (h2 : n < 1000000000) : readL (itoa n) = some n := by
  unfold itoa readL
  by_cases hn : n < 0
  · rw [if_pos hn]
    have ⟨e1, e2, e3⟩ := dec_val n.natAbs
    have hl := dec_len (u := n.natAbs) (k := 8) (by omega)
    have hne := dec_ne n.natAbs
    have hl0 : 1 ≤ (decDigits n.natAbs).length := List.length_pos_iff.mpr hne
    have hz : (decDigits n.natAbs).head? ≠ some 48 := fun e => by have := e3 e; omega
    simp only [List.head?_cons, BEq.rfl, if_true, List.tail_cons]
    rw [if_neg (by omega), if_neg (by rw [e2]; simp), if_neg (fun h => hz h.1), e1]
    congr 1; omega
  · rw [if_neg hn]
    have ⟨e1, e2, e3⟩ := dec_val n.toNat
    have hl := dec_len (u := n.toNat) (k := 8) (by omega)
    have hne := dec_ne n.toNat
    have hl0 : 1 ≤ (decDigits n.toNat).length := List.length_pos_iff.mpr hne
    have hneg : ((decDigits n.toNat).head? == some 45) = false := by
      cases hc : decDigits n.toNat with
      | nil => rfl
      | cons a r =>
        rw [hc] at e2
        simp only [List.all_cons, Bool.and_eq_true] at e2
        have := digB_true e2.1
        have : a ≠ 45 := fun e => by subst e; simp at this
        simpa using this
    simp only [hneg, Bool.false_eq_true, if_false, false_or]
    rw [if_neg (by omega), if_neg (by rw [e2]; simp), if_neg (fun h => ?_), e1]
    · congr 1; omega
    · have := e3 h.1
      have hd : (decDigits n.toNat).length = 1 := by rw [this, dec_zero]; rfl
      omega
theorem readL_some {s : List UInt8} {n : Int} (h : readL s = some n) : s = itoa n ∧ -1000000000 < n ∧ n < 1000000000 := by
  unfold readL at h
  by_cases hneg : (s.head? == some 45) = true
  · simp only [hneg, if_true, true_or, and_true] at h
    split at h
    · cases h
    split at h
    · cases h
    split at h
    · cases h
    rename_i h1 h2 h3
    have hv := Option.some.inj h
    have h2' : s.tail.all isDig = true := by simpa using h2
    have hlt := valL_lt _ _ rfl h2'
    have hpow : (10 : Nat) ^ s.tail.length ≤ 10 ^ 9 := Nat.pow_le_pow_right (by omega) (by omega)
    have ⟨hd, hz⟩ := digs_valL _ _ rfl h2' h3
    have hz' := hz (by intro e; rw [e] at h1; simp at h1)
    have hs : s = 45 :: s.tail := by
      cases s with
      | nil => simp at hneg
      | cons a r => simp at hneg; subst hneg; rfl
    refine ⟨?_, by omega, by omega⟩
    rw [itoa, if_pos (by omega)]
    have : n.natAbs = valL s.tail := by omega
    rw [this, ← digs_pos hz', hd]; exact hs
  · have hneg' : (s.head? == some 45) = false := by simpa using hneg
    simp only [hneg', Bool.false_eq_true, if_false, false_or] at h
    split at h
    · cases h
    split at h
    · cases h
    split at h
    · cases h
    rename_i h1 h2 h3
    have hv := Option.some.inj h
    have h2' : s.all isDig = true := by simpa using h2
    have hlt := valL_lt _ _ rfl h2'
    have hpow : (10 : Nat) ^ s.length ≤ 10 ^ 9 := Nat.pow_le_pow_right (by omega) (by omega)
    refine ⟨?_, by omega, by omega⟩
    rw [itoa, if_neg (by omega)]
    have hn : n.toNat = valL s := by omega
    rw [hn]
    by_cases h0 : s.head? = some 48
    · have hl : s.length = 1 := by
        have : ¬ 1 < s.length := fun e => h3 ⟨h0, e⟩
        omega
      obtain ⟨a, rfl⟩ := List.length_eq_one_iff.mp hl
      have : a = 48 := by simpa using h0
      subst this; exact dec_zero.symm
    · have ⟨hd, hz⟩ := digs_valL _ _ rfl h2' h0
      have hz' := hz (by intro e; rw [e] at h1; simp at h1)
      rw [← digs_pos hz', hd]
end Go.Proofs.YtoabpbdjffonlaaGreatDoor
namespace Go.Proofs.YtoabpbdjffonlaaGreatDoor
open Go.ChangeShapes Go.WideShapes Go.ChangeAt Go.RowKit

def textOf : Value → ByteArray
  | .string s => s
  | _ => ByteArray.empty
def emptyN (s : ByteArray) : Nat := if s.size = 0 then 1 else 0
theorem emptyN_yes {s : ByteArray} (h : s.size = 0) : emptyN s = 1 := if_pos h
theorem emptyN_no {s : ByteArray} (h : s.size ≠ 0) : emptyN s = 0 := if_neg h
theorem cons_size (c : UInt8) (t : ByteArray) : (⟨#[c]⟩ ++ t : ByteArray).size ≠ 0 := by rw [ByteArray.size_append]; show 1 + t.size ≠ 0; omega
/-- What l1Int has behind it: m is left, t is there. -/
def IntInv (n m : Int) (t : ByteArray) : Prop := (t.size = 0 ∧ m = n) ∨ (t.size ≠ 0 ∧ digL m.natAbs ++ t.data.toList = Lib.decDigits n.natAbs)
theorem IntInv.len {n m : Int} {t : ByteArray} (h : IntInv n m t) (h1 : n.natAbs ≤ 9223372036854775808) : t.size ≤ 19 := by
  rcases h with h | h
  · omega
  · have e := congrArg List.length h.2
    have := dec_len (u := n.natAbs) (k := 18) (by omega)
    rw [List.length_append] at e
    have : t.data.toList.length = t.size := rfl
    omega
theorem IntInv.step {n m : Int} {t : ByteArray} (h : IntInv n m t) (hc : t.size = 0 ∨ m ≠ 0) : IntInv n (m.tdiv 10) (⟨#[UInt8.ofNat (48 + m.natAbs % 10)]⟩ ++ t) := by
  refine .inr ⟨by rw [ByteArray.size_append]; show 1 + t.size ≠ 0; omega, ?_⟩
  have e1 : (m.tdiv 10).natAbs = m.natAbs / 10 := by rw [Int.natAbs_tdiv]; rfl
  have e2 : (⟨#[UInt8.ofNat (48 + m.natAbs % 10)]⟩ ++ t : ByteArray).data.toList = UInt8.ofNat (48 + m.natAbs % 10) :: t.data.toList := by rw [ByteArray.data_append, Array.toList_append]; rfl
  rw [e1, e2]
  have e3 : digL (m.natAbs / 10) ++ UInt8.ofNat (48 + m.natAbs % 10) :: t.data.toList = Lib.decDigits m.natAbs ++ t.data.toList := by rw [dec_digs m.natAbs]; simp
  rw [e3]
  rcases h with ⟨h0, rfl⟩ | ⟨h0, h⟩
  · have : t.data.toList = [] := List.length_eq_zero_iff.mp h0
    rw [this]; simp
  · rw [← digs_pos (by rcases hc with hc | hc <;> omega)]; exact h
theorem IntInv.done {n : Int} {t : ByteArray} (h : IntInv n 0 t) (hc : t.size ≠ 0) : t = ⟨(Lib.decDigits n.natAbs).toArray⟩ := by
  rcases h with h | h
  · exact absurd h.1 hc
  · refine WideShapes.bytes_inj ?_
    have := h.2
    rw [show digL (Int.natAbs 0) = [] from rfl, List.nil_append] at this
    rw [this]
theorem itoaB_neg {n : Int} (h : n < 0) : (⟨#[45]⟩ ++ ⟨(Lib.decDigits n.natAbs).toArray⟩ : ByteArray) = itoaB n := by
  refine WideShapes.bytes_inj ?_
  rw [ByteArray.data_append, Array.toList_append]
  simp [itoaB, Lib.itoa, h]
theorem itoaB_pos {n : Int} (h : ¬ n < 0) : (⟨(Lib.decDigits n.natAbs).toArray⟩ : ByteArray) = itoaB n := by
  have : n.natAbs = n.toNat := by omega
  rw [this, itoaB, Lib.itoa, if_neg h]

theorem run_one (w : World) (b : Nat) (c : Int) (h : w.cell? ⟨b, 0, none⟩ = some (.int .u8 c)) (h0 : 0 ≤ c) (h1 : c < 256) :
    (convert 22 9 (.slice (some ⟨b, 0, none⟩) 1 1)).run Tryz.prog w = .ok (.string ⟨#[UInt8.ofNat c.toNat]⟩) w := by
  have := run_convert_bytes_back (P := Tryz.prog) w 22 9 5 ⟨b, 0, none⟩ 1 [UInt8.ofNat c.toNat] (by kernel_rfl) (by kernel_rfl) (by kernel_rfl) (by
    intro j hj
    obtain rfl : j = 0 := by simpa using hj
    show w.cell? ⟨b, 0 + 0, none⟩ = _
    rw [Nat.add_zero, h]
    congr 2
    show c = (((UInt8.ofNat c.toNat).toNat : Nat) : Int)
    rw [UInt8.toNat_ofNat']; omega)
  exact this
theorem tmod_abs (m : Int) : (m.tmod 10).natAbs = m.natAbs % 10 := by rw [Int.natAbs_tmod]; rfl
theorem tmod_small (m : Int) : -10 < m.tmod 10 ∧ m.tmod 10 < 10 := by have := tmod_abs m; omega
theorem tdiv_abs (m : Int) : (m.tdiv 10).natAbs = m.natAbs / 10 := by rw [Int.natAbs_tdiv]; rfl
theorem wrap64_id {x : Int} (h1 : -9223372036854775808 ≤ x) (h2 : x ≤ 9223372036854775807) : wrap64 x = x := by unfold wrap64; omega
theorem digit_is {n m : Int} {t : ByteArray} {c : Int} (h : IntInv n (m.tdiv 10) (⟨#[UInt8.ofNat (48 + m.natAbs % 10)]⟩ ++ t)) (hc : c = 48 + ((m.natAbs % 10 : Nat) : Int)) :
    IntInv n (m.tdiv 10) (⟨#[UInt8.ofNat c.toNat]⟩ ++ t) := by
  have : c.toNat = 48 + m.natAbs % 10 := by omega
  rw [this]; exact h

set_option maxHeartbeats 2000000 in
set_option maxRecDepth 100000 in
theorem l1Int_any (n : Int) (h1 : -9223372036854775808 ≤ n) (h2 : n ≤ 9223372036854775807) (w : World) :
    Calls Tryz.prog 33 #[.int .i64 n] w fun e w' => e = .returned (.string (itoaB n)) ∧ Below w.heap.size w w' := by
  have HB := Lib.hid (show Below w.heap.size w w from Below.refl _ _)
  go_enter Tryz.func33, Tryz.ntmps33
  go_wp2_with fail
  go_loopw [0, 3] (fun mv tv w' => ∃ (m : Int) (t : ByteArray), mv = .int .i64 m ∧ tv = .string t ∧ m.natAbs ≤ n.natAbs ∧ IntInv n m t ∧ Below w.heap.size w w') (fun mv tv _ => (intOf mv).natAbs + emptyN (textOf tv))
  case atStart => exact ⟨n, ByteArray.empty, rfl, rfl, Nat.le_refl _, .inl ⟨rfl, rfl⟩, HB.out⟩
  case round =>
    obtain ⟨m, t, rfl, rfl, hm, hi, hb⟩ := hrel
    have HI := Lib.hid hi
    have HB' := Lib.hid hb
    have hsz := hi.len (by omega)
    have hab := tmod_abs m
    clear hi hb HB
    cases hq : (t.toList == [])
    · have hq' : t.size ≠ 0 := fun e => by rw [ByteArray.toList_eq] at hq; have : t.data.toList = [] := List.length_eq_zero_iff.mp e; rw [this] at hq; cases hq
      by_cases h0 : m = 0
      · subst h0
        have HT := Lib.hid (HI.out.done hq')
        by_cases hn : n < 0
        · have HN := Lib.hid (itoaB_neg hn)
          clear hab
          go_wp2
          go_ret
          exact ⟨by rw [← HN.out, ← HT.out]; rfl, HB'.out⟩
        · have HN := Lib.hid (itoaB_pos hn)
          clear hab
          go_wp2
          go_ret
          exact ⟨by rw [← HN.out, ← HT.out]; rfl, HB'.out⟩
      · have hlt := tmod_small m
        have hdv := tdiv_abs m
        have HW := Lib.hid (show wrap64 (m.tdiv 10) = m.tdiv 10 from wrap64_id (by omega) (by omega))
        have HS := Lib.hid (HI.out.step (.inr h0))
        go_wp2_with fail
        all_goals
          rw [run_one _ _ _ (World.cell?_alloc_mark _ _ _ _ 0) (by omega) (by omega)]
          go_wp2_with fail
          refine ⟨⟨m.tdiv 10, _, by first | rfl | rw [HW.out], rfl, by omega, ?_, below_trans HB'.out (below_new _ _)⟩, ?_⟩
          · exact digit_is HS.out (by omega)
          · try rw [HW.out]
            show (m.tdiv 10).natAbs + emptyN (⟨#[_]⟩ ++ t) < m.natAbs + emptyN t
            rw [emptyN_no (cons_size _ _), emptyN_no hq']
            omega
    · have hq' : t.size = 0 := by rw [ByteArray.toList_eq] at hq; have : t.data.toList = [] := by simpa using hq
                                  exact congrArg List.length this
      have hlt := tmod_small m
      have hdv := tdiv_abs m
      have HW := Lib.hid (show wrap64 (m.tdiv 10) = m.tdiv 10 from wrap64_id (by omega) (by omega))
      have HS := Lib.hid (HI.out.step (.inl hq'))
      go_wp2_with fail
      all_goals
        rw [run_one _ _ _ (World.cell?_alloc_mark _ _ _ _ 0) (by omega) (by omega)]
        go_wp2_with fail
        refine ⟨⟨m.tdiv 10, _, by first | rfl | rw [HW.out], rfl, by omega, ?_, below_trans HB'.out (below_new _ _)⟩, ?_⟩
        · exact digit_is HS.out (by omega)
        · try rw [HW.out]
          show (m.tdiv 10).natAbs + emptyN (⟨#[_]⟩ ++ t) < m.natAbs + emptyN t
          rw [emptyN_no (cons_size _ _), emptyN_yes hq']
          omega
end Go.Proofs.YtoabpbdjffonlaaGreatDoor
