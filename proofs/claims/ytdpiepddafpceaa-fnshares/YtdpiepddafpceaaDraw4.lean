/-
  What the draws of chapter 4 return, whatever the bytes: a mill, or at most 3 of them; nothing that was there turns, but for the cursor.
-/
import Derived.Test.YtdpiepddafpceaaDraw1
import Derived.Test.YtdpiepddafpceaaDraw2
import Derived.Test.YtdpiepddafpceaaBoxD
import Derived.Test.YtdpiepddafpceaaMillV
namespace Go.Proofs.Ytdpiepddafpceaa
open Go.ChangeShapes Go.WideShapes Go.ChangeAt Go.RowKit

/-- All but the cursor's block reads as before: two rules for the walk. -/
theorem kept_but {W w1 : World} {C : Nat} (hg : W.grownBy w1 (some C)) : (∀ b o, b < W.heap.size → b ≠ C → w1.cell? ⟨b, o, none⟩ = W.cell? ⟨b, o, none⟩) ∧ ∀ b o, b < W.heap.size → b ≠ C → w1.frozen? ⟨b, o, none⟩ = W.frozen? ⟨b, o, none⟩ :=
  ⟨fun b o h hne => World.cell?_of_block (hg.block b h (by intro e; injection e with e; exact hne e)), fun b o h hne => World.frozen?_of_block (hg.block b h (by intro e; injection e with e; exact hne e))⟩

/-- What is known of a mill that was drawn. -/
structure MDrawn (m : Mil) : Prop where
  name : m.name.size ≤ 7
  s1 : -1 ≤ m.stake
  s2 : m.stake ≤ 1000001
  h1 : -1 ≤ m.shares
  h2 : m.shares ≤ 1000000001
/-- What a draw of a mill leaves. -/
def DrawnM (C : Nat) (a : Option Addr) (len cap : Nat) (w : World) (e : Ending) (w' : World) : Prop :=
  ∃ m : Mil, MDrawn m ∧ e = .returned (.agg #[.string m.name, .int .i64 m.stake, .int .i64 m.shares, .int .i64 m.cut, .bool m.shut]) ∧ Cur w' C a len cap ∧ w.grownBy w' (some C)

/-- The answer's block takes the mill. -/
theorem end_mill {w wk : World} {C : Nat} {a : Option Addr} {len cap R M : Nat} {m : Mil} (h : Box w C a len cap R M 5 m.cs wk) (hC : C < w.heap.size) (ha : ∀ b off, a = some ⟨b, off, none⟩ → 0 < len → b < w.heap.size) (hm : MDrawn m) :
    DrawnM C a len cap w (.returned (.agg #[.string m.name, .int .i64 m.stake, .int .i64 m.shares, .int .i64 m.cut, .bool m.shut]))
      (((((wk.setCell ⟨R, 0, none⟩ (.string m.name)).setCell ⟨R, 1, none⟩ (.int .i64 m.stake)).setCell ⟨R, 2, none⟩ (.int .i64 m.shares)).setCell ⟨R, 3, none⟩ (.int .i64 m.cut)).setCell ⟨R, 4, none⟩ (.bool m.shut)) := by
  obtain ⟨c1, g1⟩ := cur_set h.cur h.grown hC ha h.rlo (o := 0) (.string m.name)
  obtain ⟨c2, g2⟩ := cur_set c1 g1 hC ha h.rlo (o := 1) (.int .i64 m.stake)
  obtain ⟨c3, g3⟩ := cur_set c2 g2 hC ha h.rlo (o := 2) (.int .i64 m.shares)
  obtain ⟨c4, g4⟩ := cur_set c3 g3 hC ha h.rlo (o := 3) (.int .i64 m.cut)
  obtain ⟨c5, g5⟩ := cur_set c4 g4 hC ha h.rlo (o := 4) (.bool m.shut)
  exact ⟨m, hm, rfl, c5, g5⟩

set_option maxHeartbeats 4000000 in
theorem l4Draw_any {C : Nat} {a : Option Addr} {len cap : Nat} {w : World} (s : ByteArray) (hs : s.size ≤ 7) (h : Cur w C a len cap) :
    Calls Try.prog 64 #[.pointer (some ⟨C, 0, none⟩), .string s] w (DrawnM C a len cap w) := by
  have hC : C < w.heap.size := lt_of_cell h.c0
  have HO := Lib.hid h.old
  have HC := Lib.hid h
  clear h
  go_enter Try.func64, Try.ntmps64
  go_wp2_with fail
  refine (l1Below_any _ (HC.out.kept (below_new _ _)) (by omega) (by omega)).mono ?_
  rintro e w1 ⟨x, ⟨hx, hx2⟩, rfl, hc1, hg1⟩
  go_wp2_with fail
  refine (l1Once_any _ hc1 (by omega) (by omega)).mono ?_
  rintro e w2 ⟨t, rfl, hc2, hg2⟩
  have hg := grown_step hg1 hg2
  have hR := (mine_lies (lies_new w [.string ByteArray.empty, .int .i64 0, .int .i64 0, .int .i64 0, .bool false] 25) rfl (free_new _ _ _)).grown (by simp) hg (by intro e; injection e with e; omega)
  have hle : w.heap.size < w2.heap.size := by have := hg.size; simp at this; omega
  have HX := Lib.hid (Box.new (c := 5) hR (Nat.le_refl _) hle hc2 (grown_step (grown_new (grown_refl w (some C)) _) hg) (Mil.cs ⟨s, 0, 0, x, t⟩) 25)
  clear hg hg1 hg2 hc1 hc2 HC hR
  go_wp2_with fail
  refine (l1Once_any _ HX.out.cur (by omega) (by omega)).mono ?_
  rintro e w3 ⟨u, rfl, hc3, hg3⟩
  have HX3 := Lib.hid (HX.out.draw hC hc3 hg3)
  clear hc3 hg3 HX
  cases u
  · go_wp2_with fail
    refine (l1Below_any _ HX3.out.cur (by omega) (by omega)).mono ?_
    rintro e w4 ⟨y, ⟨hy, hy2⟩, rfl, hc4, hg4⟩
    have HX4 := Lib.hid (HX3.out.draw hC hc4 hg4)
    clear hc4 hg4 HX3
    go_wp2_with fail
    refine (l1Below_any _ (HX4.out.cur.kept (below_new _ _)) (by omega) (by omega)).mono ?_
    rintro e w5 ⟨z, ⟨hz, hz2⟩, rfl, hc5, hg5⟩
    have HX5 := Lib.hid ((HX4.out.below (below_new _ _)).draw hC hc5 hg5)
    have hCk : C < w4.heap.size := Nat.lt_of_lt_of_le hC HX4.out.grown.size
    have p0 := kept_cell (b := w4.heap.size) (o := 0) hg5 (by go_simp; rfl) (by omega)
    have p1 := kept_cell (b := w4.heap.size) (o := 1) hg5 (by go_simp; rfl) (by omega)
    have p2 := kept_cell (b := w4.heap.size) (o := 2) hg5 (by go_simp; rfl) (by omega)
    clear hc5 hg5 HX4
    have hz3 : z = 0 ∨ z = 1 ∨ z = 2 := by omega
    rcases hz3 with rfl | rfl | rfl
    · have b0 := HX5.out.is 0 _ rfl
      have b1 := HX5.out.is 1 _ rfl
      have b2 := HX5.out.is 2 _ rfl
      have b3 := HX5.out.is 3 _ rfl
      have b4 := HX5.out.is 4 _ rfl
      have f5 := HX5.out.fm 0
      have f6 := HX5.out.fm 1
      have f7 := HX5.out.fm 2
      have f8 := HX5.out.fm 3
      have HX6 := Lib.hid (HX5.out.set hC HO.out 2 (.int .i64 (1 + y)))
      clear HX5
      go_wp2_with fail
      refine (l1Below_any _ HX6.out.cur (by omega) (by omega)).mono ?_
      rintro e w7 ⟨v, ⟨hv, hv2⟩, rfl, hc7, hg7⟩
      have hx7 := HX6.out.draw hC hc7 hg7
      have c0 := hx7.is 0 _ rfl
      have c1 := hx7.is 1 _ rfl
      have c2 := hx7.is 2 _ rfl
      have c3 := hx7.is 3 _ rfl
      have c4 := hx7.is 4 _ rfl
      have g1 := hx7.fm 1
      have HX8 := Lib.hid (hx7.set hC HO.out 1 (.int .i64 v))
      obtain ⟨r0, q0⟩ := hx7.room.all 0 (by omega)
      obtain ⟨r1, q1⟩ := hx7.room.all 1 (by omega)
      obtain ⟨r2, q2⟩ := hx7.room.all 2 (by omega)
      obtain ⟨r3, q3⟩ := hx7.room.all 3 (by omega)
      obtain ⟨r4, q4⟩ := hx7.room.all 4 (by omega)
      simp only [Nat.zero_add] at q0 q1 q2 q3 q4
      have n0 := hx7.room.free 0
      have n1 := hx7.room.free 1
      have n2 := hx7.room.free 2
      have n3 := hx7.room.free 3
      have n4 := hx7.room.free 4
      have hRM := hx7.ne
      have HD := Lib.hid (end_mill (m := ⟨s, v, 1 + y, x, t⟩) HX8.out hC HO.out ⟨hs, by show (-1 : Int) ≤ v; omega, by show (v : Int) ≤ 1000001; omega, by show (-1 : Int) ≤ 1 + y; omega, by show (1 + y : Int) ≤ 1000000001; omega⟩)
      clear hx7 hc7 hg7 HX6 HX8 b0 b1 b2 b3 b4 f5 f6 f7 f8
      go_wp2
      exact bodyPost_ret (v := .agg #[.string s, .int .i64 v, .int .i64 (1 + y), .int .i64 x, .bool t]) (by simp [results, Try.results64, go_sem, q0, q1, q2, q3, q4]) rfl HD.out
    · have b0 := HX5.out.is 0 _ rfl
      have b1 := HX5.out.is 1 _ rfl
      have b2 := HX5.out.is 2 _ rfl
      have b3 := HX5.out.is 3 _ rfl
      have b4 := HX5.out.is 4 _ rfl
      have f5 := HX5.out.fm 0
      have f6 := HX5.out.fm 1
      have f7 := HX5.out.fm 2
      have f8 := HX5.out.fm 3
      have HX6 := Lib.hid (HX5.out.set hC HO.out 2 (.int .i64 (1 + y * 10)))
      clear HX5
      go_wp2_with fail
      refine (l1Below_any _ HX6.out.cur (by omega) (by omega)).mono ?_
      rintro e w7 ⟨v, ⟨hv, hv2⟩, rfl, hc7, hg7⟩
      have hx7 := HX6.out.draw hC hc7 hg7
      have c0 := hx7.is 0 _ rfl
      have c1 := hx7.is 1 _ rfl
      have c2 := hx7.is 2 _ rfl
      have c3 := hx7.is 3 _ rfl
      have c4 := hx7.is 4 _ rfl
      have g1 := hx7.fm 1
      have HX8 := Lib.hid (hx7.set hC HO.out 1 (.int .i64 v))
      obtain ⟨r0, q0⟩ := hx7.room.all 0 (by omega)
      obtain ⟨r1, q1⟩ := hx7.room.all 1 (by omega)
      obtain ⟨r2, q2⟩ := hx7.room.all 2 (by omega)
      obtain ⟨r3, q3⟩ := hx7.room.all 3 (by omega)
      obtain ⟨r4, q4⟩ := hx7.room.all 4 (by omega)
      simp only [Nat.zero_add] at q0 q1 q2 q3 q4
      have n0 := hx7.room.free 0
      have n1 := hx7.room.free 1
      have n2 := hx7.room.free 2
      have n3 := hx7.room.free 3
      have n4 := hx7.room.free 4
      have hRM := hx7.ne
      have HD := Lib.hid (end_mill (m := ⟨s, v, 1 + y * 10, x, t⟩) HX8.out hC HO.out ⟨hs, by show (-1 : Int) ≤ v; omega, by show (v : Int) ≤ 1000001; omega, by show (-1 : Int) ≤ 1 + y * 10; omega, by show (1 + y * 10 : Int) ≤ 1000000001; omega⟩)
      clear hx7 hc7 hg7 HX6 HX8 b0 b1 b2 b3 b4 f5 f6 f7 f8
      go_wp2
      exact bodyPost_ret (v := .agg #[.string s, .int .i64 v, .int .i64 (1 + y * 10), .int .i64 x, .bool t]) (by simp [results, Try.results64, go_sem, q0, q1, q2, q3, q4]) rfl HD.out
    · have b0 := HX5.out.is 0 _ rfl
      have b1 := HX5.out.is 1 _ rfl
      have b2 := HX5.out.is 2 _ rfl
      have b3 := HX5.out.is 3 _ rfl
      have b4 := HX5.out.is 4 _ rfl
      have f5 := HX5.out.fm 0
      have f6 := HX5.out.fm 1
      have f7 := HX5.out.fm 2
      have f8 := HX5.out.fm 3
      have HX6 := Lib.hid (HX5.out.set hC HO.out 2 (.int .i64 (1 + y * 1000)))
      clear HX5
      go_wp2_with fail
      refine (l1Below_any _ HX6.out.cur (by omega) (by omega)).mono ?_
      rintro e w7 ⟨v, ⟨hv, hv2⟩, rfl, hc7, hg7⟩
      have hx7 := HX6.out.draw hC hc7 hg7
      have c0 := hx7.is 0 _ rfl
      have c1 := hx7.is 1 _ rfl
      have c2 := hx7.is 2 _ rfl
      have c3 := hx7.is 3 _ rfl
      have c4 := hx7.is 4 _ rfl
      have g1 := hx7.fm 1
      have HX8 := Lib.hid (hx7.set hC HO.out 1 (.int .i64 v))
      obtain ⟨r0, q0⟩ := hx7.room.all 0 (by omega)
      obtain ⟨r1, q1⟩ := hx7.room.all 1 (by omega)
      obtain ⟨r2, q2⟩ := hx7.room.all 2 (by omega)
      obtain ⟨r3, q3⟩ := hx7.room.all 3 (by omega)
      obtain ⟨r4, q4⟩ := hx7.room.all 4 (by omega)
      simp only [Nat.zero_add] at q0 q1 q2 q3 q4
      have n0 := hx7.room.free 0
      have n1 := hx7.room.free 1
      have n2 := hx7.room.free 2
      have n3 := hx7.room.free 3
      have n4 := hx7.room.free 4
      have hRM := hx7.ne
      have HD := Lib.hid (end_mill (m := ⟨s, v, 1 + y * 1000, x, t⟩) HX8.out hC HO.out ⟨hs, by show (-1 : Int) ≤ v; omega, by show (v : Int) ≤ 1000001; omega, by show (-1 : Int) ≤ 1 + y * 1000; omega, by show (1 + y * 1000 : Int) ≤ 1000000001; omega⟩)
      clear hx7 hc7 hg7 HX6 HX8 b0 b1 b2 b3 b4 f5 f6 f7 f8
      go_wp2
      exact bodyPost_ret (v := .agg #[.string s, .int .i64 v, .int .i64 (1 + y * 1000), .int .i64 x, .bool t]) (by simp [results, Try.results64, go_sem, q0, q1, q2, q3, q4]) rfl HD.out
  · have b0 := HX3.out.is 0 _ rfl
    have b1 := HX3.out.is 1 _ rfl
    have b2 := HX3.out.is 2 _ rfl
    have b3 := HX3.out.is 3 _ rfl
    have b4 := HX3.out.is 4 _ rfl
    have f5 := HX3.out.fm 0
    have f6 := HX3.out.fm 1
    have f7 := HX3.out.fm 2
    have f8 := HX3.out.fm 3
    obtain ⟨r0, q0⟩ := HX3.out.room.all 0 (by omega)
    obtain ⟨r1, q1⟩ := HX3.out.room.all 1 (by omega)
    obtain ⟨r2, q2⟩ := HX3.out.room.all 2 (by omega)
    obtain ⟨r3, q3⟩ := HX3.out.room.all 3 (by omega)
    obtain ⟨r4, q4⟩ := HX3.out.room.all 4 (by omega)
    simp only [Nat.zero_add] at q0 q1 q2 q3 q4
    have f0 := HX3.out.room.free 0
    have f1 := HX3.out.room.free 1
    have f2 := HX3.out.room.free 2
    have f3 := HX3.out.room.free 3
    have f4 := HX3.out.room.free 4
    have HD := Lib.hid (end_mill (m := ⟨s, 0, 0, x, t⟩) HX3.out hC HO.out ⟨hs, by show (-1 : Int) ≤ 0; omega, by show (0 : Int) ≤ 1000001; omega, by show (-1 : Int) ≤ 0; omega, by show (0 : Int) ≤ 1000000001; omega⟩)
    go_wp2
    exact bodyPost_ret (v := .agg #[.string (s), .int .i64 (0), .int .i64 (0), .int .i64 (x), .bool (t)]) (by simp [results, Try.results64, go_sem, q0, q1, q2, q3, q4]) rfl HD.out

set_option maxHeartbeats 4000000 in
theorem l4DrawAny_any {C : Nat} {a : Option Addr} {len cap : Nat} {w : World} (h : Cur w C a len cap) :
    Calls Try.prog 38 #[.pointer (some ⟨C, 0, none⟩)] w (DrawnM C a len cap w) := by
  have hC : C < w.heap.size := lt_of_cell h.c0
  have HO := Lib.hid h.old
  have HC := Lib.hid h
  clear h
  go_enter Try.func38, Try.ntmps38
  go_wp2_with fail
  refine (l2Draw_any (HC.out.kept (below_new _ _))).mono ?_
  rintro e w1 ⟨s, hs, rfl, hc1, hg1⟩
  go_wp2_with fail
  refine (l4Draw_any s hs hc1).mono ?_
  rintro e w2 ⟨m, hm, rfl, hc2, hg2⟩
  have hg := grown_step hg1 hg2
  have hR := (mine_lies (lies_new w [.string ByteArray.empty, .int .i64 0, .int .i64 0, .int .i64 0, .bool false] 25) rfl (free_new _ _ _)).grown (by simp) hg (by intro e; injection e with e; omega)
  have hle : w.heap.size < w2.heap.size := by have := hg.size; simp at this; omega
  have HX := Lib.hid (Box.new (c := 5) hR (Nat.le_refl _) hle hc2 (grown_step (grown_new (grown_refl w (some C)) _) hg) m.cs 25)
  obtain ⟨hmn, hm1, hm2, hm3, hm4⟩ := hm
  clear hg hg1 hg2 hc1 hc2 HC hR hs
  go_wp2_with fail
  refine (l1Once_any _ HX.out.cur (by omega) (by omega)).mono ?_
  rintro e w3 ⟨u, rfl, hc3, hg3⟩
  have HX3 := Lib.hid (HX.out.draw hC hc3 hg3)
  clear hc3 hg3 HX
  cases u
  · have b0 := HX3.out.is 0 _ rfl
    have b1 := HX3.out.is 1 _ rfl
    have b2 := HX3.out.is 2 _ rfl
    have b3 := HX3.out.is 3 _ rfl
    have b4 := HX3.out.is 4 _ rfl
    obtain ⟨r0, q0⟩ := HX3.out.room.all 0 (by omega)
    obtain ⟨r1, q1⟩ := HX3.out.room.all 1 (by omega)
    obtain ⟨r2, q2⟩ := HX3.out.room.all 2 (by omega)
    obtain ⟨r3, q3⟩ := HX3.out.room.all 3 (by omega)
    obtain ⟨r4, q4⟩ := HX3.out.room.all 4 (by omega)
    simp only [Nat.zero_add] at q0 q1 q2 q3 q4
    have n0 := HX3.out.room.free 0
    have n1 := HX3.out.room.free 1
    have n2 := HX3.out.room.free 2
    have n3 := HX3.out.room.free 3
    have n4 := HX3.out.room.free 4
    have HD := Lib.hid (end_mill (m := ⟨m.name, m.stake, m.shares, m.cut, m.shut⟩) HX3.out hC HO.out ⟨hmn, hm1, hm2, hm3, hm4⟩)
    go_wp2
    exact bodyPost_ret (v := .agg #[.string (m.name), .int .i64 (m.stake), .int .i64 (m.shares), .int .i64 (m.cut), .bool (m.shut)]) (by simp [results, Try.results38, go_sem, q0, q1, q2, q3, q4]) rfl HD.out
  · go_wp2_with fail
    refine (l1Below_any _ HX3.out.cur (by omega) (by omega)).mono ?_
    rintro e w4 ⟨y, ⟨hy, hy2⟩, rfl, hc4, hg4⟩
    have HX4 := Lib.hid (HX3.out.draw hC hc4 hg4)
    clear hc4 hg4 HX3
    have hy3 : y = 0 ∨ y = 1 ∨ y = 2 ∨ y = 3 := by omega
    rcases hy3 with rfl | rfl | rfl | rfl
    · go_wp2_with fail
      refine (l2DrawAny_any HX4.out.cur).mono ?_
      rintro e w5 ⟨s5, hs5, rfl, hc5, hg5⟩
      have hx5 := HX4.out.draw hC hc5 hg5
      have b0 := hx5.is 0 _ rfl
      have b1 := hx5.is 1 _ rfl
      have b2 := hx5.is 2 _ rfl
      have b3 := hx5.is 3 _ rfl
      have b4 := hx5.is 4 _ rfl
      obtain ⟨r0, q0⟩ := hx5.room.all 0 (by omega)
      obtain ⟨r1, q1⟩ := hx5.room.all 1 (by omega)
      obtain ⟨r2, q2⟩ := hx5.room.all 2 (by omega)
      obtain ⟨r3, q3⟩ := hx5.room.all 3 (by omega)
      obtain ⟨r4, q4⟩ := hx5.room.all 4 (by omega)
      simp only [Nat.zero_add] at q0 q1 q2 q3 q4
      have n0 := hx5.room.free 0
      have n1 := hx5.room.free 1
      have n2 := hx5.room.free 2
      have n3 := hx5.room.free 3
      have n4 := hx5.room.free 4
      have g0 := hx5.fm 0
      have HX6 := Lib.hid (hx5.set hC HO.out 0 (.string s5))
      have HD := Lib.hid (end_mill (m := ⟨s5, m.stake, m.shares, m.cut, m.shut⟩) HX6.out hC HO.out ⟨hs5, hm1, hm2, hm3, hm4⟩)
      clear hx5 hc5 hg5 HX4 HX6
      go_wp2
      exact bodyPost_ret (v := .agg #[.string (s5), .int .i64 (m.stake), .int .i64 (m.shares), .int .i64 (m.cut), .bool (m.shut)]) (by simp [results, Try.results38, go_sem, q0, q1, q2, q3, q4]) rfl HD.out
    · go_wp2_with fail
      refine (l1DrawAmount_any HX4.out.cur).mono ?_
      rintro e w5 ⟨z, ⟨hz, hz2⟩, rfl, hc5, hg5⟩
      have hx5 := HX4.out.draw hC hc5 hg5
      have b0 := hx5.is 0 _ rfl
      have b1 := hx5.is 1 _ rfl
      have b2 := hx5.is 2 _ rfl
      have b3 := hx5.is 3 _ rfl
      have b4 := hx5.is 4 _ rfl
      obtain ⟨r0, q0⟩ := hx5.room.all 0 (by omega)
      obtain ⟨r1, q1⟩ := hx5.room.all 1 (by omega)
      obtain ⟨r2, q2⟩ := hx5.room.all 2 (by omega)
      obtain ⟨r3, q3⟩ := hx5.room.all 3 (by omega)
      obtain ⟨r4, q4⟩ := hx5.room.all 4 (by omega)
      simp only [Nat.zero_add] at q0 q1 q2 q3 q4
      have n0 := hx5.room.free 0
      have n1 := hx5.room.free 1
      have n2 := hx5.room.free 2
      have n3 := hx5.room.free 3
      have n4 := hx5.room.free 4
      have g0 := hx5.fm 1
      have HX6 := Lib.hid (hx5.set hC HO.out 1 (.int .i64 z))
      have HD := Lib.hid (end_mill (m := ⟨m.name, z, m.shares, m.cut, m.shut⟩) HX6.out hC HO.out ⟨hmn, hz, hz2, hm3, hm4⟩)
      clear hx5 hc5 hg5 HX4 HX6
      go_wp2
      exact bodyPost_ret (v := .agg #[.string (m.name), .int .i64 (z), .int .i64 (m.shares), .int .i64 (m.cut), .bool (m.shut)]) (by simp [results, Try.results38, go_sem, q0, q1, q2, q3, q4]) rfl HD.out
    · go_wp2_with fail
      refine (l1Below_any _ (HX4.out.cur.kept (below_new _ _)) (by omega) (by omega)).mono ?_
      rintro e w5 ⟨z, ⟨hz, hz2⟩, rfl, hc5, hg5⟩
      have HX5 := Lib.hid ((HX4.out.below (below_new _ _)).draw hC hc5 hg5)
      have hCk : C < w4.heap.size := Nat.lt_of_lt_of_le hC HX4.out.grown.size
      have p0 := kept_cell (b := w4.heap.size) (o := 0) hg5 (by go_simp; rfl) (by omega)
      have p1 := kept_cell (b := w4.heap.size) (o := 1) hg5 (by go_simp; rfl) (by omega)
      have p2 := kept_cell (b := w4.heap.size) (o := 2) hg5 (by go_simp; rfl) (by omega)
      have p3 := kept_cell (b := w4.heap.size) (o := 3) hg5 (by go_simp; rfl) (by omega)
      clear hc5 hg5 HX4
      have hz3 : z = 0 ∨ z = 1 ∨ z = 2 ∨ z = 3 := by omega
      rcases hz3 with rfl | rfl | rfl | rfl
      · have b0 := HX5.out.is 0 _ rfl
        have b1 := HX5.out.is 1 _ rfl
        have b2 := HX5.out.is 2 _ rfl
        have b3 := HX5.out.is 3 _ rfl
        have b4 := HX5.out.is 4 _ rfl
        obtain ⟨r0, q0⟩ := HX5.out.room.all 0 (by omega)
        obtain ⟨r1, q1⟩ := HX5.out.room.all 1 (by omega)
        obtain ⟨r2, q2⟩ := HX5.out.room.all 2 (by omega)
        obtain ⟨r3, q3⟩ := HX5.out.room.all 3 (by omega)
        obtain ⟨r4, q4⟩ := HX5.out.room.all 4 (by omega)
        simp only [Nat.zero_add] at q0 q1 q2 q3 q4
        have n0 := HX5.out.room.free 0
        have n1 := HX5.out.room.free 1
        have n2 := HX5.out.room.free 2
        have n3 := HX5.out.room.free 3
        have n4 := HX5.out.room.free 4
        have g0 := HX5.out.fm 2
        have HX6 := Lib.hid (HX5.out.set hC HO.out 2 (.int .i64 (-1)))
        have HD := Lib.hid (end_mill (m := ⟨m.name, m.stake, (-1), m.cut, m.shut⟩) HX6.out hC HO.out ⟨hmn, hm1, hm2, by show (-1 : Int) ≤ (-1); omega, by show ((-1) : Int) ≤ 1000000001; omega⟩)
        clear HX5 HX6
        go_wp2
        exact bodyPost_ret (v := .agg #[.string (m.name), .int .i64 (m.stake), .int .i64 ((-1)), .int .i64 (m.cut), .bool (m.shut)]) (by simp [results, Try.results38, go_sem, q0, q1, q2, q3, q4]) rfl HD.out
      · have b0 := HX5.out.is 0 _ rfl
        have b1 := HX5.out.is 1 _ rfl
        have b2 := HX5.out.is 2 _ rfl
        have b3 := HX5.out.is 3 _ rfl
        have b4 := HX5.out.is 4 _ rfl
        obtain ⟨r0, q0⟩ := HX5.out.room.all 0 (by omega)
        obtain ⟨r1, q1⟩ := HX5.out.room.all 1 (by omega)
        obtain ⟨r2, q2⟩ := HX5.out.room.all 2 (by omega)
        obtain ⟨r3, q3⟩ := HX5.out.room.all 3 (by omega)
        obtain ⟨r4, q4⟩ := HX5.out.room.all 4 (by omega)
        simp only [Nat.zero_add] at q0 q1 q2 q3 q4
        have n0 := HX5.out.room.free 0
        have n1 := HX5.out.room.free 1
        have n2 := HX5.out.room.free 2
        have n3 := HX5.out.room.free 3
        have n4 := HX5.out.room.free 4
        have g0 := HX5.out.fm 2
        have HX6 := Lib.hid (HX5.out.set hC HO.out 2 (.int .i64 0))
        have HD := Lib.hid (end_mill (m := ⟨m.name, m.stake, 0, m.cut, m.shut⟩) HX6.out hC HO.out ⟨hmn, hm1, hm2, by show (-1 : Int) ≤ 0; omega, by show (0 : Int) ≤ 1000000001; omega⟩)
        clear HX5 HX6
        go_wp2
        exact bodyPost_ret (v := .agg #[.string (m.name), .int .i64 (m.stake), .int .i64 (0), .int .i64 (m.cut), .bool (m.shut)]) (by simp [results, Try.results38, go_sem, q0, q1, q2, q3, q4]) rfl HD.out
      · have b0 := HX5.out.is 0 _ rfl
        have b1 := HX5.out.is 1 _ rfl
        have b2 := HX5.out.is 2 _ rfl
        have b3 := HX5.out.is 3 _ rfl
        have b4 := HX5.out.is 4 _ rfl
        obtain ⟨r0, q0⟩ := HX5.out.room.all 0 (by omega)
        obtain ⟨r1, q1⟩ := HX5.out.room.all 1 (by omega)
        obtain ⟨r2, q2⟩ := HX5.out.room.all 2 (by omega)
        obtain ⟨r3, q3⟩ := HX5.out.room.all 3 (by omega)
        obtain ⟨r4, q4⟩ := HX5.out.room.all 4 (by omega)
        simp only [Nat.zero_add] at q0 q1 q2 q3 q4
        have n0 := HX5.out.room.free 0
        have n1 := HX5.out.room.free 1
        have n2 := HX5.out.room.free 2
        have n3 := HX5.out.room.free 3
        have n4 := HX5.out.room.free 4
        have g0 := HX5.out.fm 2
        have HX6 := Lib.hid (HX5.out.set hC HO.out 2 (.int .i64 1000000000))
        have HD := Lib.hid (end_mill (m := ⟨m.name, m.stake, 1000000000, m.cut, m.shut⟩) HX6.out hC HO.out ⟨hmn, hm1, hm2, by show (-1 : Int) ≤ 1000000000; omega, by show (1000000000 : Int) ≤ 1000000001; omega⟩)
        clear HX5 HX6
        go_wp2
        exact bodyPost_ret (v := .agg #[.string (m.name), .int .i64 (m.stake), .int .i64 (1000000000), .int .i64 (m.cut), .bool (m.shut)]) (by simp [results, Try.results38, go_sem, q0, q1, q2, q3, q4]) rfl HD.out
      · have b0 := HX5.out.is 0 _ rfl
        have b1 := HX5.out.is 1 _ rfl
        have b2 := HX5.out.is 2 _ rfl
        have b3 := HX5.out.is 3 _ rfl
        have b4 := HX5.out.is 4 _ rfl
        obtain ⟨r0, q0⟩ := HX5.out.room.all 0 (by omega)
        obtain ⟨r1, q1⟩ := HX5.out.room.all 1 (by omega)
        obtain ⟨r2, q2⟩ := HX5.out.room.all 2 (by omega)
        obtain ⟨r3, q3⟩ := HX5.out.room.all 3 (by omega)
        obtain ⟨r4, q4⟩ := HX5.out.room.all 4 (by omega)
        simp only [Nat.zero_add] at q0 q1 q2 q3 q4
        have n0 := HX5.out.room.free 0
        have n1 := HX5.out.room.free 1
        have n2 := HX5.out.room.free 2
        have n3 := HX5.out.room.free 3
        have n4 := HX5.out.room.free 4
        have g0 := HX5.out.fm 2
        have HX6 := Lib.hid (HX5.out.set hC HO.out 2 (.int .i64 1000000001))
        have HD := Lib.hid (end_mill (m := ⟨m.name, m.stake, 1000000001, m.cut, m.shut⟩) HX6.out hC HO.out ⟨hmn, hm1, hm2, by show (-1 : Int) ≤ 1000000001; omega, by show (1000000001 : Int) ≤ 1000000001; omega⟩)
        clear HX5 HX6
        go_wp2
        exact bodyPost_ret (v := .agg #[.string (m.name), .int .i64 (m.stake), .int .i64 (1000000001), .int .i64 (m.cut), .bool (m.shut)]) (by simp [results, Try.results38, go_sem, q0, q1, q2, q3, q4]) rfl HD.out
    · go_wp2_with fail
      refine (l1Below_any _ (HX4.out.cur.kept (below_new _ _)) (by omega) (by omega)).mono ?_
      rintro e w5 ⟨z, ⟨hz, hz2⟩, rfl, hc5, hg5⟩
      have HX5 := Lib.hid ((HX4.out.below (below_new _ _)).draw hC hc5 hg5)
      have hCk : C < w4.heap.size := Nat.lt_of_lt_of_le hC HX4.out.grown.size
      have p0 := kept_cell (b := w4.heap.size) (o := 0) hg5 (by go_simp; rfl) (by omega)
      have p1 := kept_cell (b := w4.heap.size) (o := 1) hg5 (by go_simp; rfl) (by omega)
      clear hc5 hg5 HX4
      have hz3 : z = 0 ∨ z = 1 := by omega
      rcases hz3 with rfl | rfl
      · have b0 := HX5.out.is 0 _ rfl
        have b1 := HX5.out.is 1 _ rfl
        have b2 := HX5.out.is 2 _ rfl
        have b3 := HX5.out.is 3 _ rfl
        have b4 := HX5.out.is 4 _ rfl
        obtain ⟨r0, q0⟩ := HX5.out.room.all 0 (by omega)
        obtain ⟨r1, q1⟩ := HX5.out.room.all 1 (by omega)
        obtain ⟨r2, q2⟩ := HX5.out.room.all 2 (by omega)
        obtain ⟨r3, q3⟩ := HX5.out.room.all 3 (by omega)
        obtain ⟨r4, q4⟩ := HX5.out.room.all 4 (by omega)
        simp only [Nat.zero_add] at q0 q1 q2 q3 q4
        have n0 := HX5.out.room.free 0
        have n1 := HX5.out.room.free 1
        have n2 := HX5.out.room.free 2
        have n3 := HX5.out.room.free 3
        have n4 := HX5.out.room.free 4
        have g0 := HX5.out.fm 3
        have HX6 := Lib.hid (HX5.out.set hC HO.out 3 (.int .i64 (-1)))
        have HD := Lib.hid (end_mill (m := ⟨m.name, m.stake, m.shares, (-1), m.shut⟩) HX6.out hC HO.out ⟨hmn, hm1, hm2, hm3, hm4⟩)
        clear HX5 HX6
        go_wp2
        exact bodyPost_ret (v := .agg #[.string (m.name), .int .i64 (m.stake), .int .i64 (m.shares), .int .i64 ((-1)), .bool (m.shut)]) (by simp [results, Try.results38, go_sem, q0, q1, q2, q3, q4]) rfl HD.out
      · have b0 := HX5.out.is 0 _ rfl
        have b1 := HX5.out.is 1 _ rfl
        have b2 := HX5.out.is 2 _ rfl
        have b3 := HX5.out.is 3 _ rfl
        have b4 := HX5.out.is 4 _ rfl
        obtain ⟨r0, q0⟩ := HX5.out.room.all 0 (by omega)
        obtain ⟨r1, q1⟩ := HX5.out.room.all 1 (by omega)
        obtain ⟨r2, q2⟩ := HX5.out.room.all 2 (by omega)
        obtain ⟨r3, q3⟩ := HX5.out.room.all 3 (by omega)
        obtain ⟨r4, q4⟩ := HX5.out.room.all 4 (by omega)
        simp only [Nat.zero_add] at q0 q1 q2 q3 q4
        have n0 := HX5.out.room.free 0
        have n1 := HX5.out.room.free 1
        have n2 := HX5.out.room.free 2
        have n3 := HX5.out.room.free 3
        have n4 := HX5.out.room.free 4
        have g0 := HX5.out.fm 3
        have HX6 := Lib.hid (HX5.out.set hC HO.out 3 (.int .i64 101))
        have HD := Lib.hid (end_mill (m := ⟨m.name, m.stake, m.shares, 101, m.shut⟩) HX6.out hC HO.out ⟨hmn, hm1, hm2, hm3, hm4⟩)
        clear HX5 HX6
        go_wp2
        exact bodyPost_ret (v := .agg #[.string (m.name), .int .i64 (m.stake), .int .i64 (m.shares), .int .i64 (101), .bool (m.shut)]) (by simp [results, Try.results38, go_sem, q0, q1, q2, q3, q4]) rfl HD.out
end Go.Proofs.Ytdpiepddafpceaa
