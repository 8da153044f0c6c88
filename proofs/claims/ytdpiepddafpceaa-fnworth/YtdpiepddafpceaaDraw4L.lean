/-
  What the draws of chapter 4 give a law.
-/
import Derived.Test.YtdpiepddafpceaaDraw4
import Derived.Test.YtdpiepddafpceaaDrawR
import Derived.Deep.RegionWith
import Derived.IntWalk
import Derived.IntWalk
import Derived.IntWalk
import Derived.IntWalk
namespace Go.Proofs.Ytdpiepddafpceaa
open Go.ChangeShapes Go.WideShapes Go.ChangeAt Go.RowKit

/-- What a draw of mills leaves. -/
def DrawnMs (C : Nat) (a : Option Addr) (len cap : Nat) (w : World) (e : Ending) (w' : World) : Prop :=
  ∃ (g c : Nat) (ms : List Mil), e = .returned (.slice (some ⟨g, 0, none⟩) ms.length c) ∧ ms.length ≤ 3 ∧ OwnG Mil.cs 5 25 MDrawn C a len cap w g c ms w'

set_option maxHeartbeats 4000000 in
theorem l4DrawList_any {C : Nat} {a : Option Addr} {len cap : Nat} {w : World} (h : Cur w C a len cap) :
    Calls Try.prog 58 #[.pointer (some ⟨C, 0, none⟩)] w (DrawnMs C a len cap w) := by
  have hC : C < w.heap.size := lt_of_cell h.c0
  have HO := Lib.hid h.old
  have HC := Lib.hid h
  clear h
  obtain ⟨i0, hi, hz0, hz1, hz2⟩ := info_parts info_Mill
  have HI := Lib.hid hi
  have HZ0 := Lib.hid hz0
  have HZ1 := Lib.hid hz1
  have HZ2 := Lib.hid hz2
  clear hi hz0 hz1 hz2
  go_enter Try.func58, Try.ntmps58
  go_wp2_with fail
  refine (l4Draw_any _ (by decide) HC.out).mono ?_
  rintro e w1 ⟨m1, hm1, rfl, hc1, hg1⟩
  go_wp2_with fail
  refine (l4Draw_any _ (by decide) hc1).mono ?_
  rintro e w2 ⟨m2, hm2, rfl, hc2, hg2⟩
  have HG2 := Lib.hid (grown_step hg1 hg2)
  have HC2 := Lib.hid hc2
  clear hg1 hg2 hc1 hc2 HC
  go_wp2_with fail
  refine (l1Below_any _ (HC2.out.kept (below_new _ _)) (by omega) (by omega)).mono ?_
  rintro e w3 ⟨x, ⟨hx, hx2⟩, rfl, hc3, hg3⟩
  obtain ⟨k, rfl⟩ : ∃ k : Nat, x = k := ⟨x.toNat, by omega⟩
  have HW3 := Lib.hid (ownG_lit (Z := MDrawn) Mil.len hC HG2.out [m1, m2] (by simp) (by intro m hm; simp at hm; rcases hm with rfl | rfl <;> assumption) hc3 hg3 k (by simp; omega))
  have HL := Lib.hid (show ([m1, m2].take k).length = k by simp; omega)
  clear hc3 hg3 HG2 HC2
  go_wp2_with fail
  refine (l1Once_any _ HW3.out.cur (by omega) (by omega)).mono ?_
  rintro e w4 ⟨t, rfl, hc4, hg4⟩
  have HW4 := Lib.hid (HW3.out.draw hC hc4 hg4)
  clear hc4 hg4 HW3
  cases t
  · have HD := Lib.hid (show DrawnMs C a len cap w (.returned (.slice (some ⟨w2.heap.size, 0, none⟩) k 2)) w4 from ⟨w2.heap.size, 2, [m1, m2].take k, by rw [HL.out], by rw [HL.out]; omega, HW4.out⟩)
    go_wp2
    go_ret
    exact HD.out
  · go_wp2_with fail
    refine (l4DrawAny_any HW4.out.cur).mono ?_
    rintro e w5 ⟨m, hm, rfl, hc5, hg5⟩
    have HW5 := Lib.hid (HW4.out.draw hC hc5 hg5)
    have HC5 := Lib.hid (hc5.kept (below_new w5 (.cells m.cs.toArray 25)))
    have HG5 := Lib.hid (grown_new HW5.out.grown (.cells m.cs.toArray 25))
    have HM := Lib.hid hm
    have HOW := Lib.hid (show (w5.alloc (.cells m.cs.toArray 25)).ownsRow w.heap.size 25 5 (.slice (some ⟨w2.heap.size, 0, none⟩) k 2) k (([m1, m2].take k).flatMap Mil.cs) from by have := HW5.out.own.alloc (.cells m.cs.toArray 25); rw [HL.out] at this; exact this)
    clear hm hc5 hg5 HW4
    go_wp2_with (at_builtin; refine wpList_append_lies _ rfl _ _ 33 rfl w.heap.size 25 i0 (.agg #[.string ByteArray.empty, .int .i64 0, .int .i64 0, .int .i64 0, .bool false]) 5 48 Try.underlying33 HI.out HZ0.out HZ1.out HZ2.out rfl (by decide) _ _ _ rfl HOW.out ⟨w5.heap.size, 0, none⟩ 1 1 ([m].flatMap Mil.cs) rfl ?c0 ?c1 (flat_one Mil.one _) (by decide) ?c3 ?c4 ?c5 _ rfl ?_)
    case c0 => rfl
    case c1 =>
      intro j u hj
      obtain ⟨b', off', e, hc⟩ := lies_new w5 m.cs 25 j u (by simpa using hj)
      injection e with e; injection e with e1 e2; subst e1; subst e2
      rw [add_plain]; exact hc
    case c3 => unfold maxLen; omega
    case c4 => omega
    case c5 => exact HG5.out.size
    intro g6 c6 w6 hown6 hgrow hat hlt
    have HW6 := Lib.hid (HW5.out.more (ys := [m]) hC HO.out HL.out rfl (by intro y hy; simp at hy; subst hy; exact HM.out) HC5.out HG5.out 2 hown6 hgrow)
    have HL6 := Lib.hid (show ([m1, m2].take k ++ [m]).length = k + 1 by rw [List.length_append, HL.out]; rfl)
    have HD := Lib.hid (show DrawnMs C a len cap w (.returned (.slice (some ⟨g6, 0, none⟩) (k + 1) c6)) w6 from ⟨g6, c6, [m1, m2].take k ++ [m], by rw [HL6.out], by rw [HL6.out]; omega, HW6.out⟩)
    clear hown6 hgrow hat hlt HW6 HOW
    go_wp2
    go_ret
    exact HD.out

/-- A mill and a number. -/
def GivesMN (P : Mil → Int → Prop) (w : World) (e : Ending) (w' : World) : Prop :=
  ∃ (m : Mil) (n : Int), MDrawn m ∧ P m n ∧ e = .returned (.tuple #[.agg #[.string m.name, .int .i64 m.stake, .int .i64 m.shares, .int .i64 m.cut, .bool m.shut], .int .i64 n]) ∧ Below w.heap.size w w'

theorem Src.alloc {w : World} {a : Option Addr} {len : Nat} (h : Src w a len) (o : Obj) : Src (w.alloc o) a len := h.kept (below_new _ _)

set_option maxHeartbeats 2000000 in
theorem drawSharesFor_any {a : Option Addr} {len cap : Nat} {w : World} (h : Src w a len) : Calls Try.prog 13 #[.slice a len cap] w (GivesMN (fun _ n => -1 ≤ n ∧ n ≤ 1000001) w) := by
  go_enter Try.func13, Try.ntmps13
  go_wp2_with fail
  have h1 := h.alloc (.cells #[.string ByteArray.empty, .int .i64 0, .int .i64 0, .int .i64 0, .bool false] 25)
  refine (l1New_any h1.row h1.small).mono ?_
  rintro e w0 ⟨rfl, hc0, hb0⟩
  have hR : Mine w0 w.heap.size 0 5 := (mine_lies (lies_new w [.string ByteArray.empty, .int .i64 0, .int .i64 0, .int .i64 0, .bool false] 25) rfl (free_new _ _ _)).below (by simp) hb0
  have hs0 : w.heap.size + 1 < w0.heap.size := by have := lt_of_cell hc0.c0; simpa using this
  have HB0 := Lib.hid (below_trans (below_new w (.cells #[.string ByteArray.empty, .int .i64 0, .int .i64 0, .int .i64 0, .bool false] 25)) hb0)
  have HR := Lib.hid hR
  have HC0 := Lib.hid hc0
  clear hR hb0 hc0 h1 h
  go_wp2_with fail
  refine (l4DrawAny_any (by have := HC0.out; simpa using this)).mono ?_
  rintro e w1 ⟨m, hm, rfl, hc1, hg1⟩
  have HM := Lib.hid hm
  have hs1 : w.heap.size + 1 < w1.heap.size := by have := hg1.size; omega
  have HR1 := Lib.hid (HR.out.grown (by omega) hg1 (by intro e; injection e with e; omega))
  have HB1 := Lib.hid (bgrown HB0.out (by omega) hg1 (by intro g e; injection e with e; omega))
  have HC1 := Lib.hid hc1
  clear hm hg1 hc1 HR HB0 HC0
  go_wp2_with fail
  go_region_with (go_at_call 39; refine (l1DrawAmount_any (HC1.out.kept (show Below w1.heap.size w1 _ from below_draws (below_new w1 (.cells #[.string m.name, .int .i64 m.stake, .int .i64 m.shares, .int .i64 m.cut, .bool m.shut] 25)) 1))).mono ?_; rintro e w2 ⟨n, hn, rfl, hc2, hgd⟩; have hg2 := grown_undraw hgd; clear hgd; have b0 := kept_cell (b := w1.heap.size) (o := 0) hg2 (by go_simp; rfl) (by omega); have b1 := kept_cell (b := w1.heap.size) (o := 1) hg2 (by go_simp; rfl) (by omega); have b2 := kept_cell (b := w1.heap.size) (o := 2) hg2 (by go_simp; rfl) (by omega); have b3 := kept_cell (b := w1.heap.size) (o := 3) hg2 (by go_simp; rfl) (by omega); have b4 := kept_cell (b := w1.heap.size) (o := 4) hg2 (by go_simp; rfl) (by omega); have hR2 := (HR1.out.below (by omega) (below_new w1 (.cells #[.string m.name, .int .i64 m.stake, .int .i64 m.shares, .int .i64 m.cut, .bool m.shut] 25))).grown (w' := w2) (by simp; omega) (show (w1.alloc (.cells #[.string m.name, .int .i64 m.stake, .int .i64 m.shares, .int .i64 m.cut, .bool m.shut] 25)).grownBy w2 (some _) from hg2) (by intro e; injection e with e; omega); obtain ⟨qr0, q0⟩ := hR2.all 0 (by omega); obtain ⟨qr1, q1⟩ := hR2.all 1 (by omega); obtain ⟨qr2, q2⟩ := hR2.all 2 (by omega); obtain ⟨qr3, q3⟩ := hR2.all 3 (by omega); obtain ⟨qr4, q4⟩ := hR2.all 4 (by omega); simp only [Nat.zero_add] at q0 q1 q2 q3 q4; have qf0 := hR2.free 0; have qf1 := hR2.free 1; have qf2 := hR2.free 2; have qf3 := hR2.free 3; have qf4 := hR2.free 4; clear hR2; have HB2 := Lib.hid (bgrown (below_trans HB1.out (below_new w1 (.cells #[.string m.name, .int .i64 m.stake, .int .i64 m.shares, .int .i64 m.cut, .bool m.shut] 25))) (by simp; omega) (show (w1.alloc (.cells #[.string m.name, .int .i64 m.stake, .int .i64 m.shares, .int .i64 m.cut, .bool m.shut] 25)).grownBy w2 (some _) from hg2) (by intro g e; injection e with e; omega)); have HN := Lib.hid hn; clear hg2 hc2 hn)
  all_goals
    go_wp2
    refine bodyPost_ret (v := .tuple #[.agg #[.string m.name, .int .i64 m.stake, .int .i64 m.shares, .int .i64 m.cut, .bool m.shut], .int .i64 n]) (by simp [results, Try.results13, go_sem, q0, q1, q2, q3, q4]) rfl ⟨m, n, HM.out, HN.out, rfl, ?_⟩
    exact ((((HB2.out.setCell (Nat.le_refl _) _).setCell (Nat.le_refl _) _).setCell (Nat.le_refl _) _).setCell (Nat.le_refl _) _).setCell (Nat.le_refl _) _

/-- Two mills. -/
def GivesMM (w : World) (e : Ending) (w' : World) : Prop :=
  ∃ (m n : Mil), MDrawn m ∧ MDrawn n ∧ e = .returned (.tuple #[.agg #[.string m.name, .int .i64 m.stake, .int .i64 m.shares, .int .i64 m.cut, .bool m.shut], .agg #[.string n.name, .int .i64 n.stake, .int .i64 n.shares, .int .i64 n.cut, .bool n.shut]]) ∧ Below w.heap.size w w'

set_option maxHeartbeats 2000000 in
theorem drawCheaper_any {a : Option Addr} {len cap : Nat} {w : World} (h : Src w a len) : Calls Try.prog 15 #[.slice a len cap] w (GivesMM w) := by
  go_enter Try.func15, Try.ntmps15
  go_wp2_with fail
  have h1 := (h.alloc (.cells #[.string ByteArray.empty, .int .i64 0, .int .i64 0, .int .i64 0, .bool false] 25)).alloc (.cells #[.string ByteArray.empty, .int .i64 0, .int .i64 0, .int .i64 0, .bool false] 25)
  refine (l1New_any h1.row h1.small).mono ?_
  rintro e w0 ⟨rfl, hc0, hb0⟩
  have hR : Mine w0 w.heap.size 0 5 := ((mine_lies (lies_new w [.string ByteArray.empty, .int .i64 0, .int .i64 0, .int .i64 0, .bool false] 25) rfl (free_new _ _ _)).below (by simp) (below_new _ (.cells #[.string ByteArray.empty, .int .i64 0, .int .i64 0, .int .i64 0, .bool false] 25))).below (by simp; omega) hb0
  have hQ := (mine_lies (lies_new (w.alloc (.cells #[.string ByteArray.empty, .int .i64 0, .int .i64 0, .int .i64 0, .bool false] 25)) [.string ByteArray.empty, .int .i64 0, .int .i64 0, .int .i64 0, .bool false] 25) rfl (free_new _ _ _)).below (by simp) hb0
  have hs0 : w.heap.size + 2 < w0.heap.size := by have := lt_of_cell hc0.c0; simpa using this
  have HB0 := Lib.hid (below_trans (below_trans (below_new w (.cells #[.string ByteArray.empty, .int .i64 0, .int .i64 0, .int .i64 0, .bool false] 25)) (below_new _ (.cells #[.string ByteArray.empty, .int .i64 0, .int .i64 0, .int .i64 0, .bool false] 25))) hb0)
  have HR := Lib.hid hR
  have HQ := Lib.hid (show Mine w0 (w.heap.size + 1) 0 5 by simpa using hQ)
  have HC0 := Lib.hid hc0
  clear hR hQ hb0 hc0 h1 h
  go_wp2_with fail
  refine (l4DrawAny_any (by have := HC0.out; simpa using this)).mono ?_
  rintro e w1 ⟨m, hm, rfl, hc1, hg1⟩
  have HM := Lib.hid hm
  have hs1 : w.heap.size + 2 < w1.heap.size := by have := hg1.size; omega
  have HR1 := Lib.hid (HR.out.grown (by omega) hg1 (by intro e; injection e with e; omega))
  have HQ1 := Lib.hid (HQ.out.grown (by omega) hg1 (by intro e; injection e with e; omega))
  have HB1 := Lib.hid (bgrown HB0.out (by omega) hg1 (by intro g e; injection e with e; omega))
  have HC1 := Lib.hid hc1
  clear hm hg1 hc1 HR HQ HB0 HC0
  go_wp2_with fail
  go_region_with (go_at_call 38; refine (l4DrawAny_any (HC1.out.kept (show Below w1.heap.size w1 _ from below_draws (below_new w1 (.cells #[.string m.name, .int .i64 m.stake, .int .i64 m.shares, .int .i64 m.cut, .bool m.shut] 25)) 1))).mono ?_; rintro e w2 ⟨n, hn, rfl, hc2, hgd⟩; have hg2 := grown_undraw hgd; clear hgd; have b0 := kept_cell (b := w1.heap.size) (o := 0) hg2 (by go_simp; rfl) (by omega); have b1 := kept_cell (b := w1.heap.size) (o := 1) hg2 (by go_simp; rfl) (by omega); have b2 := kept_cell (b := w1.heap.size) (o := 2) hg2 (by go_simp; rfl) (by omega); have b3 := kept_cell (b := w1.heap.size) (o := 3) hg2 (by go_simp; rfl) (by omega); have b4 := kept_cell (b := w1.heap.size) (o := 4) hg2 (by go_simp; rfl) (by omega); have hR2 := (HR1.out.below (by omega) (below_new w1 (.cells #[.string m.name, .int .i64 m.stake, .int .i64 m.shares, .int .i64 m.cut, .bool m.shut] 25))).grown (w' := w2) (by simp; omega) (show (w1.alloc (.cells #[.string m.name, .int .i64 m.stake, .int .i64 m.shares, .int .i64 m.cut, .bool m.shut] 25)).grownBy w2 (some _) from hg2) (by intro e; injection e with e; omega); obtain ⟨qr0, q0⟩ := hR2.all 0 (by omega); obtain ⟨qr1, q1⟩ := hR2.all 1 (by omega); obtain ⟨qr2, q2⟩ := hR2.all 2 (by omega); obtain ⟨qr3, q3⟩ := hR2.all 3 (by omega); obtain ⟨qr4, q4⟩ := hR2.all 4 (by omega); simp only [Nat.zero_add] at q0 q1 q2 q3 q4; have qf0 := hR2.free 0; have qf1 := hR2.free 1; have qf2 := hR2.free 2; have qf3 := hR2.free 3; have qf4 := hR2.free 4; clear hR2; have hQ2 := (HQ1.out.below (by omega) (below_new w1 (.cells #[.string m.name, .int .i64 m.stake, .int .i64 m.shares, .int .i64 m.cut, .bool m.shut] 25))).grown (w' := w2) (by simp; omega) (show (w1.alloc (.cells #[.string m.name, .int .i64 m.stake, .int .i64 m.shares, .int .i64 m.cut, .bool m.shut] 25)).grownBy w2 (some _) from hg2) (by intro e; injection e with e; omega); obtain ⟨pr0, p0⟩ := hQ2.all 0 (by omega); obtain ⟨pr1, p1⟩ := hQ2.all 1 (by omega); obtain ⟨pr2, p2⟩ := hQ2.all 2 (by omega); obtain ⟨pr3, p3⟩ := hQ2.all 3 (by omega); obtain ⟨pr4, p4⟩ := hQ2.all 4 (by omega); simp only [Nat.zero_add] at p0 p1 p2 p3 p4; have pf0 := hQ2.free 0; have pf1 := hQ2.free 1; have pf2 := hQ2.free 2; have pf3 := hQ2.free 3; have pf4 := hQ2.free 4; clear hQ2; have HB2 := Lib.hid (bgrown (below_trans HB1.out (below_new w1 (.cells #[.string m.name, .int .i64 m.stake, .int .i64 m.shares, .int .i64 m.cut, .bool m.shut] 25))) (by simp; omega) (show (w1.alloc (.cells #[.string m.name, .int .i64 m.stake, .int .i64 m.shares, .int .i64 m.cut, .bool m.shut] 25)).grownBy w2 (some _) from hg2) (by intro g e; injection e with e; omega)); have HN := Lib.hid hn; clear hg2 hc2 hn)
  all_goals
    go_wp2
    refine bodyPost_ret (v := .tuple #[.agg #[.string m.name, .int .i64 m.stake, .int .i64 m.shares, .int .i64 m.cut, .bool m.shut], .agg #[.string n.name, .int .i64 n.stake, .int .i64 n.shares, .int .i64 n.cut, .bool n.shut]]) (by simp [results, Try.results15, go_sem, q0, q1, q2, q3, q4, p0, p1, p2, p3, p4]) rfl ⟨m, n, HM.out, HN.out, rfl, ?_⟩
    exact ((((((((((HB2.out.setCell (Nat.le_refl _) _).setCell (Nat.le_refl _) _).setCell (Nat.le_refl _) _).setCell (Nat.le_refl _) _).setCell (Nat.le_refl _) _).setCell (Nat.le_succ _) _).setCell (Nat.le_succ _) _).setCell (Nat.le_succ _) _).setCell (Nat.le_succ _) _).setCell (Nat.le_succ _) _)

/-- Mills and a name. -/
def GivesMsS (w : World) (e : Ending) (w' : World) : Prop :=
  ∃ (g c : Nat) (ms : List Mil) (s : ByteArray), e = .returned (.tuple #[.slice (some ⟨g, 0, none⟩) ms.length c, .string s]) ∧ ms.length ≤ 3 ∧ (∀ m ∈ ms, MDrawn m) ∧ Recs Mil.cs w' (some ⟨g, 0, none⟩) ms ∧ Below w.heap.size w w'

set_option maxHeartbeats 1000000 in
theorem drawMillIn_any {a : Option Addr} {len cap : Nat} {w : World} (h : Src w a len) : Calls Try.prog 23 #[.slice a len cap] w (GivesMsS w) := by
  go_enter Try.func23, Try.ntmps23
  go_wp2_with fail
  refine (l1New_any h.row h.small).mono ?_
  rintro e w0 ⟨rfl, hc0, hb0⟩
  have hC : w.heap.size < w0.heap.size := lt_of_cell hc0.c0
  have HB0 := Lib.hid hb0
  clear hb0
  go_wp2_with fail
  refine (l4DrawList_any hc0).mono ?_
  rintro e w1 ⟨g, c, ms, rfl, hl, hw1⟩
  have HW1 := Lib.hid hw1
  clear hw1 hc0
  go_wp2_with fail
  refine (l2DrawAny_any HW1.out.cur).mono ?_
  rintro e w2 ⟨s, hs, rfl, hc2, hg2⟩
  have hw2 := HW1.out.draw hC hc2 hg2
  have HD := Lib.hid (show GivesMsS w (.returned (.tuple #[.slice (some ⟨g, 0, none⟩) ms.length c, .string s])) w2 from ⟨g, c, ms, s, rfl, hl, hw2.all, hw2.lies Mil.len, below_of HB0.out hw2.grown⟩)
  clear hw2 hc2 hg2 HW1
  go_wp2
  go_ret2
  exact HD.out

/-- The greater one. -/
def maxV (x y : Int) : Int := if y < x then x else y
theorem max_left {x y : Int} (h : y < x) : maxV x y = x := by unfold maxV; rw [if_pos h]
theorem max_right {x y : Int} (h : ¬ y < x) : maxV x y = y := by unfold maxV; rw [if_neg h]
theorem max_bd (x y : Int) : x ≤ maxV x y ∧ y ≤ maxV x y ∧ (maxV x y = x ∨ maxV x y = y) := by
  by_cases h : y < x
  · rw [max_left h]; omega
  · rw [max_right h]; omega

theorem l1Max_any (x y : Int) (w : World) : Calls Try.prog 56 #[.int .i64 x, .int .i64 y] w fun e w' => e = .returned (.int .i64 (maxV x y)) ∧ w = w' := by
  by_cases h : y < x
  · have HN := Lib.hid (max_left h)
    go_enter Try.func56, Try.ntmps56
    go_wp2
    go_ret
    exact ⟨by rw [HN.out]; rfl, rfl⟩
  · have HN := Lib.hid (max_right h)
    go_enter Try.func56, Try.ntmps56
    go_wp2
    go_ret
    exact ⟨by rw [HN.out]; rfl, rfl⟩

theorem undrew {W w2 : World} {row : Option Nat} (h : W.drew.grownBy w2 row) : W.grownBy w2 row := ⟨h.os, h.tape, h.output, h.size, h.block⟩

theorem pick3 (s : Int) (j : Nat) (h : j < 3) (hs : -1 ≤ s) : ∃ p : Int, (#[Value.int .i64 (-1), .int .i64 s, .int .i64 (s + 1)] : Array Value)[j]? = some (.int .i64 p) ∧ -1 ≤ p ∧ p ≤ s + 1 := by
  match j, h with
  | 0, _ => exact ⟨-1, rfl, by omega, by omega⟩
  | 1, _ => exact ⟨s, rfl, by omega, by omega⟩
  | 2, _ => exact ⟨s + 1, rfl, by omega, by omega⟩

set_option maxHeartbeats 4000000 in
theorem drawWorth_any {a : Option Addr} {len cap : Nat} {w : World} (h : Src w a len) : Calls Try.prog 22 #[.slice a len cap] w (GivesMN (fun m n => -1 ≤ n ∧ n ≤ m.shares + 1) w) := by
  go_enter Try.func22, Try.ntmps22
  go_wp2_with fail
  have h1 := h.alloc (.cells #[.string ByteArray.empty, .int .i64 0, .int .i64 0, .int .i64 0, .bool false] 25)
  refine (l1New_any h1.row h1.small).mono ?_
  rintro e w0 ⟨rfl, hc0, hb0⟩
  have hR : Mine w0 w.heap.size 0 5 := (mine_lies (lies_new w [.string ByteArray.empty, .int .i64 0, .int .i64 0, .int .i64 0, .bool false] 25) rfl (free_new _ _ _)).below (by simp) hb0
  have hs0 : w.heap.size + 1 < w0.heap.size := by have := lt_of_cell hc0.c0; simpa using this
  have HB0 := Lib.hid (below_trans (below_new w (.cells #[.string ByteArray.empty, .int .i64 0, .int .i64 0, .int .i64 0, .bool false] 25)) hb0)
  have HR := Lib.hid hR
  have HC0 := Lib.hid hc0
  clear hR hb0 hc0 h1 h
  go_wp2_with fail
  refine (l4DrawAny_any (by have := HC0.out; simpa using this)).mono ?_
  rintro e w1 ⟨m, hm, rfl, hc1, hg1⟩
  have HM := Lib.hid hm
  obtain ⟨-, hm1, hm2, hm3, hm4⟩ := hm
  have hs1 : w.heap.size + 1 < w1.heap.size := by have := hg1.size; omega
  have HR1 := Lib.hid (HR.out.grown (by omega) hg1 (by intro e; injection e with e; omega))
  have HB1 := Lib.hid (bgrown HB0.out (by omega) hg1 (by intro g e; injection e with e; omega))
  have HC1 := Lib.hid hc1
  clear hg1 hc1 HR HB0 HC0
  have hmx := max_bd 1 (m.shares + 1)
  obtain ⟨x1, x2, x3⟩ := hmx
  go_wp2_with fail
  refine (l1Max_any _ _ _).mono ?_
  rintro e w' ⟨rfl, rfl⟩
  go_wp2_with fail
  refine (l1Below_any _ (HC1.out.kept (below_new _ _)) (by omega) (by omega)).mono ?_
  rintro e w2 ⟨n, ⟨hn, hn2⟩, rfl, hc2, hg2⟩
  have hs2 : w1.heap.size < w2.heap.size := by have := hg2.size; simp at this; omega
  have b0 := kept_cell (b := w1.heap.size) (o := 0) hg2 (by go_simp; rfl) (by omega)
  have b1 := kept_cell (b := w1.heap.size) (o := 1) hg2 (by go_simp; rfl) (by omega)
  have b2 := kept_cell (b := w1.heap.size) (o := 2) hg2 (by go_simp; rfl) (by omega)
  have b3 := kept_cell (b := w1.heap.size) (o := 3) hg2 (by go_simp; rfl) (by omega)
  have b4 := kept_cell (b := w1.heap.size) (o := 4) hg2 (by go_simp; rfl) (by omega)
  have HR2 := Lib.hid ((HR1.out.below (by omega) (below_new w1 (.cells #[.string m.name, .int .i64 m.stake, .int .i64 m.shares, .int .i64 m.cut, .bool m.shut] 25))).grown (by simp; omega) hg2 (by intro e; injection e with e; omega))
  have HB2 := Lib.hid (bgrown (below_trans HB1.out (below_new w1 (.cells #[.string m.name, .int .i64 m.stake, .int .i64 m.shares, .int .i64 m.cut, .bool m.shut] 25))) (by simp; omega) hg2 (by intro g e; injection e with e; omega))
  have HC2 := Lib.hid hc2
  clear hg2 hc2 HR1 HB1 HC1
  go_wp2_with fail
  refine (l1Once_any _ HC2.out (by omega) (by omega)).mono ?_
  rintro e w3 ⟨t, rfl, hc3, hg3⟩
  have hs3 : w1.heap.size < w3.heap.size := by have := hg3.size; omega
  have c0 := kept_cell hg3 b0 (by omega)
  have c1 := kept_cell hg3 b1 (by omega)
  have c2 := kept_cell hg3 b2 (by omega)
  have c3 := kept_cell hg3 b3 (by omega)
  have c4 := kept_cell hg3 b4 (by omega)
  have hR3 := HR2.out.grown (by omega) hg3 (by intro e; injection e with e; omega)
  have HB3 := Lib.hid (bgrown HB2.out (by omega) hg3 (by intro g e; injection e with e; omega))
  have HC3 := Lib.hid hc3
  clear b0 b1 b2 b3 b4
  cases t
  · obtain ⟨q_r0, q0⟩ := hR3.all 0 (by omega)
    obtain ⟨q_r1, q1⟩ := hR3.all 1 (by omega)
    obtain ⟨q_r2, q2⟩ := hR3.all 2 (by omega)
    obtain ⟨q_r3, q3⟩ := hR3.all 3 (by omega)
    obtain ⟨q_r4, q4⟩ := hR3.all 4 (by omega)
    simp only [Nat.zero_add] at q0 q1 q2 q3 q4
    have q_f0 := hR3.free 0
    have q_f1 := hR3.free 1
    have q_f2 := hR3.free 2
    have q_f3 := hR3.free 3
    have q_f4 := hR3.free 4
    clear hR3
    go_wp2
    refine bodyPost_ret (v := .tuple #[.agg #[.string m.name, .int .i64 m.stake, .int .i64 m.shares, .int .i64 m.cut, .bool m.shut], .int .i64 n]) (by simp [results, Try.results22, go_sem, q0, q1, q2, q3, q4]) rfl ⟨m, n, HM.out, ⟨by omega, by omega⟩, rfl, ?_⟩
    exact ((((HB3.out.setCell (Nat.le_refl _) _).setCell (Nat.le_refl _) _).setCell (Nat.le_refl _) _).setCell (Nat.le_refl _) _).setCell (Nat.le_refl _) _
  · have HR3 := Lib.hid hR3
    have eb := below_new w3 (.cells #[.int .i64 (-1), .int .i64 m.shares, .int .i64 (m.shares + 1)] 2)
    have curA : Cur w3.drew (w.heap.size + 1) a len cap := HC3.out.kept (below_draws (Below.refl _ _) 1)
    have curB : Cur (w3.alloc (.cells #[.int .i64 (-1), .int .i64 m.shares, .int .i64 (m.shares + 1)] 2)).drew (w.heap.size + 1) a len cap := HC3.out.kept (below_draws eb 1)
    have HR3b := Lib.hid (hR3.below (by omega) eb)
    have HB3b := Lib.hid (below_trans HB3.out eb)
    have k0 := (eb.cell (p := ⟨w1.heap.size, 0, none⟩) hs3).trans c0
    have k1 := (eb.cell (p := ⟨w1.heap.size, 1, none⟩) hs3).trans c1
    have k2 := (eb.cell (p := ⟨w1.heap.size, 2, none⟩) hs3).trans c2
    have k3 := (eb.cell (p := ⟨w1.heap.size, 3, none⟩) hs3).trans c3
    have k4 := (eb.cell (p := ⟨w1.heap.size, 4, none⟩) hs3).trans c4
    clear hR3 eb hg3 hc3
    have hwr : IntKind.i64.wrap (m.shares + 1) = m.shares + 1 := IntWalk.i64_in _ (by omega)
    go_wp2_with fail
    go_region_with (go_at_call 55; first | (((with_reducible refine (l1Below_any 3 curA (by decide) (by decide)).mono ?_); have HWR := Lib.hid hwr; clear hwr; rintro e w4 ⟨z, ⟨hz, hz2⟩, rfl, hc4, hgd⟩; have hg4 := undrew hgd; obtain ⟨j, rfl⟩ : ∃ j : Nat, z = j := ⟨z.toNat, by omega⟩; obtain ⟨pv, hpk, hp1, hp2⟩ := pick3 m.shares j (by omega) (by omega); have hpk2 := hpk; rw [List.getElem?_toArray] at hpk2; have d0 := kept_cell hg4 c0 (by omega); have d1 := kept_cell hg4 c1 (by omega); have d2 := kept_cell hg4 c2 (by omega); have d3 := kept_cell hg4 c3 (by omega); have d4 := kept_cell hg4 c4 (by omega); have HR4 := Lib.hid (HR3.out.grown (w' := w4) (by omega) hg4 (by intro e; injection e with e; omega)); have HB4 := Lib.hid (bgrown HB3.out (by omega) hg4 (by intro g e; injection e with e; omega)); clear hgd hg4 hc4; have hwr := HWR.out)) | (((with_reducible refine (l1Below_any 3 curB (by decide) (by decide)).mono ?_); have HWR := Lib.hid hwr; clear hwr; rintro e w4 ⟨z, ⟨hz, hz2⟩, rfl, hc4, hgd⟩; have hg4 := undrew hgd; obtain ⟨j, rfl⟩ : ∃ j : Nat, z = j := ⟨z.toNat, by omega⟩; obtain ⟨pv, hpk, hp1, hp2⟩ := pick3 m.shares j (by omega) (by omega); have hpk2 := hpk; rw [List.getElem?_toArray] at hpk2; have d0 := kept_cell hg4 k0 (by omega); have d1 := kept_cell hg4 k1 (by omega); have d2 := kept_cell hg4 k2 (by omega); have d3 := kept_cell hg4 k3 (by omega); have d4 := kept_cell hg4 k4 (by omega); have hlit := kept_cell (b := w3.heap.size) (o := j) hg4 (by simp only [World.cell?, heap_alloc_new]; exact hpk) (by omega); have HR4 := Lib.hid (HR3b.out.grown (w' := w4) (by simp; omega) hg4 (by intro e; injection e with e; omega)); have HB4 := Lib.hid (bgrown HB3b.out (by simp; omega) hg4 (by intro g e; injection e with e; omega)); clear hgd hg4 hc4; have hwr := HWR.out)))
    all_goals
      clear hwr
      have hR4 := HR4.out
      obtain ⟨qr0, q0⟩ := hR4.all 0 (by omega)
      obtain ⟨qr1, q1⟩ := hR4.all 1 (by omega)
      obtain ⟨qr2, q2⟩ := hR4.all 2 (by omega)
      obtain ⟨qr3, q3⟩ := hR4.all 3 (by omega)
      obtain ⟨qr4, q4⟩ := hR4.all 4 (by omega)
      simp only [Nat.zero_add] at q0 q1 q2 q3 q4
      have qf0 := hR4.free 0
      have qf1 := hR4.free 1
      have qf2 := hR4.free 2
      have qf3 := hR4.free 3
      have qf4 := hR4.free 4
      have hs4 : w.heap.size < w4.heap.size := by have := hR4.all 0 (by omega); obtain ⟨_, hq⟩ := this; exact at_lt hq
      have hs5 : w1.heap.size < w4.heap.size := at_lt d0
      clear hR4 HR4
      go_wp2
      refine bodyPost_ret (v := .tuple #[.agg #[.string m.name, .int .i64 m.stake, .int .i64 m.shares, .int .i64 m.cut, .bool m.shut], .int .i64 pv]) (by first | (simp [results, Try.results22, go_sem, q0, q1, q2, q3, q4]; done) | simp [results, Try.results22, go_sem, q0, q1, q2, q3, q4, hs4]) rfl ⟨m, pv, HM.out, ⟨hp1, hp2⟩, rfl, ?_⟩
      first
        | (with_reducible exact ((((HB4.out.setCell (Nat.le_refl _) _).setCell (Nat.le_refl _) _).setCell (Nat.le_refl _) _).setCell (Nat.le_refl _) _).setCell (Nat.le_refl _) _)
        | (with_reducible refine Below.alloc ?_ ?_ _)
          · exact ((((HB4.out.setCell (Nat.le_refl _) _).setCell (Nat.le_refl _) _).setCell (Nat.le_refl _) _).setCell (Nat.le_refl _) _).setCell (Nat.le_refl _) _
          · simp [World.setCell]; omega
end Go.Proofs.Ytdpiepddafpceaa
