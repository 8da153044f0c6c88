/-
  Texts joined: Draw6L, DrawL.
-/
import Derived.Test.YtlnnchgaloejlaaGreatP18
import Derived.Test.YtlnnchgaloejlaaGreatP35
import Derived.Test.YtlnnchgaloejlaaGreatP37
import Derived.Test.YtlnnchgaloejlaaGreatP38
import Derived.Test.YtlnnchgaloejlaaGreatP39
namespace Go.Proofs.YtlnnchgaloejlaaGreat
open Go.ChangeShapes Go.WideShapes Go.ChangeAt Go.RowKit

/-- The answer's block takes it. -/
theorem end_waitB {w wk : World} {C : Nat} {a : Option Addr} {len cap R M : Nat} {q : Wai} (h : Box w C a len cap R M 4 q.cs wk) (hC : C < w.heap.size) (ha : ∀ b off, a = some ⟨b, off, none⟩ → 0 < len → b < w.heap.size) (hq : WShort q) :
    DrawnW C a len cap w (.returned (.agg #[.string q.who, .string q.mill, .int .i64 q.amount, .int .i64 q.ripe]))
      ((((wk.setCell ⟨R, 0, none⟩ (.string q.who)).setCell ⟨R, 1, none⟩ (.string q.mill)).setCell ⟨R, 2, none⟩ (.int .i64 q.amount)).setCell ⟨R, 3, none⟩ (.int .i64 q.ripe)) := by
  obtain ⟨c1, g1⟩ := cur_set h.cur h.grown hC ha h.rlo (o := 0) (.string q.who)
  obtain ⟨c2, g2⟩ := cur_set c1 g1 hC ha h.rlo (o := 1) (.string q.mill)
  obtain ⟨c3, g3⟩ := cur_set c2 g2 hC ha h.rlo (o := 2) (.int .i64 q.amount)
  obtain ⟨c4, g4⟩ := cur_set c3 g3 hC ha h.rlo (o := 3) (.int .i64 q.ripe)
  exact ⟨q, hq, rfl, c4, g4⟩

set_option maxHeartbeats 4000000 in
set_option maxRecDepth 100000 in
theorem l6DrawAny_any {C : Nat} {a : Option Addr} {len cap : Nat} {w : World} (h : Cur w C a len cap) :
    Calls Tryz.prog 95 #[.pointer (some ⟨C, 0, none⟩)] w (DrawnW C a len cap w) := by
  have hC : C < w.heap.size := lt_of_cell h.c0
  have HO := Lib.hid h.old
  have HC := Lib.hid h
  clear h
  go_enter Tryz.func95, Tryz.ntmps95
  go_wp2_with fail
  refine (l6Draw_any (HC.out.kept (below_new _ _))).mono ?_
  rintro e w2 ⟨m, hm, rfl, hc2, hg2⟩
  have hR := (mine_lies (lies_new w [.string ByteArray.empty, .string ByteArray.empty, .int .i64 0, .int .i64 0] 74) rfl (free_new _ _ _)).grown (by simp) hg2 (by intro e; injection e with e; omega)
  have hle : w.heap.size < w2.heap.size := by have := hg2.size; simp at this; omega
  have HX := Lib.hid (Box.new (c := 4) hR (Nat.le_refl _) hle hc2 (grown_step (grown_new (grown_refl w (some C)) _) hg2) m.cs 74)
  obtain ⟨hm1, hm2⟩ := hm
  have HM1 := Lib.hid hm1
  have HM2 := Lib.hid hm2
  clear hg2 hc2 HC hR hm1 hm2
  go_wp2_with fail
  refine (l1Once_any _ HX.out.cur (by omega) (by omega)).mono ?_
  rintro e w3 ⟨u, rfl, hc3, hg3⟩
  have HX3 := Lib.hid (HX.out.draw hC hc3 hg3)
  clear hc3 hg3 HX
  cases u
  · have b0 := HX3.out.is 0 _ rfl
    have b1 := HX3.out.is 1 _ rfl
    have b2 := HX3.out.is 2 _ rfl
    have b3 := HX3.out.is 3 _ rfl
    obtain ⟨r0, q0⟩ := HX3.out.room.all 0 (by omega)
    obtain ⟨r1, q1⟩ := HX3.out.room.all 1 (by omega)
    obtain ⟨r2, q2⟩ := HX3.out.room.all 2 (by omega)
    obtain ⟨r3, q3⟩ := HX3.out.room.all 3 (by omega)
    simp only [Nat.zero_add] at q0 q1 q2 q3
    have n0 := HX3.out.room.free 0
    have n1 := HX3.out.room.free 1
    have n2 := HX3.out.room.free 2
    have n3 := HX3.out.room.free 3
    have HD := Lib.hid (end_waitB (q := ⟨m.who, m.mill, m.amount, m.ripe⟩) HX3.out hC HO.out ⟨HM1.out, HM2.out⟩)
    go_wp2
    exact bodyPost_ret (v := .agg #[.string m.who, .string m.mill, .int .i64 m.amount, .int .i64 m.ripe]) (by simp [results, Tryz.results95, go_sem, q0, q1, q2, q3]) rfl HD.out
  · go_wp2_with fail
    refine (l1Below_any _ HX3.out.cur (by omega) (by omega)).mono ?_
    rintro e w4 ⟨y, ⟨hy, hy2⟩, rfl, hc4, hg4⟩
    have HX4 := Lib.hid (HX3.out.draw hC hc4 hg4)
    clear hc4 hg4 HX3
    have hy3 : y = 0 ∨ y = 1 ∨ y = 2 ∨ y = 3 := by omega
    rcases hy3 with rfl | rfl | rfl | rfl
    · go_wp2_with fail
      refine (l2DrawAny_any HX4.out.cur).mono ?_
      rintro e w5 ⟨s5, hs5, rfl, hc5, hg5⟩
      have hx5 := HX4.out.draw hC hc5 hg5
      have HS5 := Lib.hid hs5
      clear hs5
      have b0 := hx5.is 0 _ rfl
      have b1 := hx5.is 1 _ rfl
      have b2 := hx5.is 2 _ rfl
      have b3 := hx5.is 3 _ rfl
      obtain ⟨r0, q0⟩ := hx5.room.all 0 (by omega)
      obtain ⟨r1, q1⟩ := hx5.room.all 1 (by omega)
      obtain ⟨r2, q2⟩ := hx5.room.all 2 (by omega)
      obtain ⟨r3, q3⟩ := hx5.room.all 3 (by omega)
      simp only [Nat.zero_add] at q0 q1 q2 q3
      have n0 := hx5.room.free 0
      have n1 := hx5.room.free 1
      have n2 := hx5.room.free 2
      have n3 := hx5.room.free 3
      have g0 := hx5.fm 0
      have HX6 := Lib.hid (hx5.set hC HO.out 0 (.string s5))
      have HD := Lib.hid (end_waitB (q := ⟨s5, m.mill, m.amount, m.ripe⟩) HX6.out hC HO.out ⟨HS5.out, HM2.out⟩)
      clear hx5 hc5 hg5 HX4 HX6
      go_wp2
      exact bodyPost_ret (v := .agg #[.string s5, .string m.mill, .int .i64 m.amount, .int .i64 m.ripe]) (by simp [results, Tryz.results95, go_sem, q0, q1, q2, q3]) rfl HD.out
    · go_wp2_with fail
      refine (l2DrawAny_any HX4.out.cur).mono ?_
      rintro e w5 ⟨s5, hs5, rfl, hc5, hg5⟩
      have hx5 := HX4.out.draw hC hc5 hg5
      have HS5 := Lib.hid hs5
      clear hs5
      have b0 := hx5.is 0 _ rfl
      have b1 := hx5.is 1 _ rfl
      have b2 := hx5.is 2 _ rfl
      have b3 := hx5.is 3 _ rfl
      obtain ⟨r0, q0⟩ := hx5.room.all 0 (by omega)
      obtain ⟨r1, q1⟩ := hx5.room.all 1 (by omega)
      obtain ⟨r2, q2⟩ := hx5.room.all 2 (by omega)
      obtain ⟨r3, q3⟩ := hx5.room.all 3 (by omega)
      simp only [Nat.zero_add] at q0 q1 q2 q3
      have n0 := hx5.room.free 0
      have n1 := hx5.room.free 1
      have n2 := hx5.room.free 2
      have n3 := hx5.room.free 3
      have g0 := hx5.fm 1
      have HX6 := Lib.hid (hx5.set hC HO.out 1 (.string s5))
      have HD := Lib.hid (end_waitB (q := ⟨m.who, s5, m.amount, m.ripe⟩) HX6.out hC HO.out ⟨HM1.out, HS5.out⟩)
      clear hx5 hc5 hg5 HX4 HX6
      go_wp2
      exact bodyPost_ret (v := .agg #[.string m.who, .string s5, .int .i64 m.amount, .int .i64 m.ripe]) (by simp [results, Tryz.results95, go_sem, q0, q1, q2, q3]) rfl HD.out
    · go_wp2_with fail
      refine (l1Below_any _ (HX4.out.cur.kept (below_new _ _)) (by omega) (by omega)).mono ?_
      rintro e w5 ⟨z, ⟨hz, hz2⟩, rfl, hc5, hg5⟩
      have HX5 := Lib.hid ((HX4.out.below (below_new _ _)).draw hC hc5 hg5)
      have hCk : C < w4.heap.size := Nat.lt_of_lt_of_le hC HX4.out.grown.size
      have p0 := kept_cell (b := w4.heap.size) (o := 0) hg5 (by go_simp; rfl) (by omega)
      have p1 := kept_cell (b := w4.heap.size) (o := 1) hg5 (by go_simp; rfl) (by omega)
      have p2 := kept_cell (b := w4.heap.size) (o := 2) hg5 (by go_simp; rfl) (by omega)
      clear hc5 hg5 HX4
      have hz3 : z = 0 ∨ z = 1 ∨ z = 2 := by omega
      rcases hz3 with rfl | rfl | rfl
      · have b0 := HX5.out.is 0 _ rfl
        have b1 := HX5.out.is 1 _ rfl
        have b2 := HX5.out.is 2 _ rfl
        have b3 := HX5.out.is 3 _ rfl
        obtain ⟨r0, q0⟩ := HX5.out.room.all 0 (by omega)
        obtain ⟨r1, q1⟩ := HX5.out.room.all 1 (by omega)
        obtain ⟨r2, q2⟩ := HX5.out.room.all 2 (by omega)
        obtain ⟨r3, q3⟩ := HX5.out.room.all 3 (by omega)
        simp only [Nat.zero_add] at q0 q1 q2 q3
        have n0 := HX5.out.room.free 0
        have n1 := HX5.out.room.free 1
        have n2 := HX5.out.room.free 2
        have n3 := HX5.out.room.free 3
        have g0 := HX5.out.fm 2
        have HX6 := Lib.hid (HX5.out.set hC HO.out 2 (.int .i64 0))
        have HD := Lib.hid (end_waitB (q := ⟨m.who, m.mill, 0, m.ripe⟩) HX6.out hC HO.out ⟨HM1.out, HM2.out⟩)
        clear HX5 HX6
        go_wp2
        exact bodyPost_ret (v := .agg #[.string m.who, .string m.mill, .int .i64 0, .int .i64 m.ripe]) (by simp [results, Tryz.results95, go_sem, q0, q1, q2, q3]) rfl HD.out
      · have b0 := HX5.out.is 0 _ rfl
        have b1 := HX5.out.is 1 _ rfl
        have b2 := HX5.out.is 2 _ rfl
        have b3 := HX5.out.is 3 _ rfl
        obtain ⟨r0, q0⟩ := HX5.out.room.all 0 (by omega)
        obtain ⟨r1, q1⟩ := HX5.out.room.all 1 (by omega)
        obtain ⟨r2, q2⟩ := HX5.out.room.all 2 (by omega)
        obtain ⟨r3, q3⟩ := HX5.out.room.all 3 (by omega)
        simp only [Nat.zero_add] at q0 q1 q2 q3
        have n0 := HX5.out.room.free 0
        have n1 := HX5.out.room.free 1
        have n2 := HX5.out.room.free 2
        have n3 := HX5.out.room.free 3
        have g0 := HX5.out.fm 2
        have HX6 := Lib.hid (HX5.out.set hC HO.out 2 (.int .i64 1000000))
        have HD := Lib.hid (end_waitB (q := ⟨m.who, m.mill, 1000000, m.ripe⟩) HX6.out hC HO.out ⟨HM1.out, HM2.out⟩)
        clear HX5 HX6
        go_wp2
        exact bodyPost_ret (v := .agg #[.string m.who, .string m.mill, .int .i64 1000000, .int .i64 m.ripe]) (by simp [results, Tryz.results95, go_sem, q0, q1, q2, q3]) rfl HD.out
      · have b0 := HX5.out.is 0 _ rfl
        have b1 := HX5.out.is 1 _ rfl
        have b2 := HX5.out.is 2 _ rfl
        have b3 := HX5.out.is 3 _ rfl
        obtain ⟨r0, q0⟩ := HX5.out.room.all 0 (by omega)
        obtain ⟨r1, q1⟩ := HX5.out.room.all 1 (by omega)
        obtain ⟨r2, q2⟩ := HX5.out.room.all 2 (by omega)
        obtain ⟨r3, q3⟩ := HX5.out.room.all 3 (by omega)
        simp only [Nat.zero_add] at q0 q1 q2 q3
        have n0 := HX5.out.room.free 0
        have n1 := HX5.out.room.free 1
        have n2 := HX5.out.room.free 2
        have n3 := HX5.out.room.free 3
        have g0 := HX5.out.fm 2
        have HX6 := Lib.hid (HX5.out.set hC HO.out 2 (.int .i64 1000001))
        have HD := Lib.hid (end_waitB (q := ⟨m.who, m.mill, 1000001, m.ripe⟩) HX6.out hC HO.out ⟨HM1.out, HM2.out⟩)
        clear HX5 HX6
        go_wp2
        exact bodyPost_ret (v := .agg #[.string m.who, .string m.mill, .int .i64 1000001, .int .i64 m.ripe]) (by simp [results, Tryz.results95, go_sem, q0, q1, q2, q3]) rfl HD.out
    · go_wp2_with fail
      refine (l1Below_any _ (HX4.out.cur.kept (below_new _ _)) (by omega) (by omega)).mono ?_
      rintro e w5 ⟨z, ⟨hz, hz2⟩, rfl, hc5, hg5⟩
      have HX5 := Lib.hid ((HX4.out.below (below_new _ _)).draw hC hc5 hg5)
      have hCk : C < w4.heap.size := Nat.lt_of_lt_of_le hC HX4.out.grown.size
      have p0 := kept_cell (b := w4.heap.size) (o := 0) hg5 (by go_simp; rfl) (by omega)
      have p1 := kept_cell (b := w4.heap.size) (o := 1) hg5 (by go_simp; rfl) (by omega)
      have p2 := kept_cell (b := w4.heap.size) (o := 2) hg5 (by go_simp; rfl) (by omega)
      clear hc5 hg5 HX4
      have hz3 : z = 0 ∨ z = 1 ∨ z = 2 := by omega
      rcases hz3 with rfl | rfl | rfl
      · have b0 := HX5.out.is 0 _ rfl
        have b1 := HX5.out.is 1 _ rfl
        have b2 := HX5.out.is 2 _ rfl
        have b3 := HX5.out.is 3 _ rfl
        obtain ⟨r0, q0⟩ := HX5.out.room.all 0 (by omega)
        obtain ⟨r1, q1⟩ := HX5.out.room.all 1 (by omega)
        obtain ⟨r2, q2⟩ := HX5.out.room.all 2 (by omega)
        obtain ⟨r3, q3⟩ := HX5.out.room.all 3 (by omega)
        simp only [Nat.zero_add] at q0 q1 q2 q3
        have n0 := HX5.out.room.free 0
        have n1 := HX5.out.room.free 1
        have n2 := HX5.out.room.free 2
        have n3 := HX5.out.room.free 3
        have g0 := HX5.out.fm 3
        have HX6 := Lib.hid (HX5.out.set hC HO.out 3 (.int .i64 (-1)))
        have HD := Lib.hid (end_waitB (q := ⟨m.who, m.mill, m.amount, (-1)⟩) HX6.out hC HO.out ⟨HM1.out, HM2.out⟩)
        clear HX5 HX6
        go_wp2
        exact bodyPost_ret (v := .agg #[.string m.who, .string m.mill, .int .i64 m.amount, .int .i64 (-1)]) (by simp [results, Tryz.results95, go_sem, q0, q1, q2, q3]) rfl HD.out
      · have b0 := HX5.out.is 0 _ rfl
        have b1 := HX5.out.is 1 _ rfl
        have b2 := HX5.out.is 2 _ rfl
        have b3 := HX5.out.is 3 _ rfl
        obtain ⟨r0, q0⟩ := HX5.out.room.all 0 (by omega)
        obtain ⟨r1, q1⟩ := HX5.out.room.all 1 (by omega)
        obtain ⟨r2, q2⟩ := HX5.out.room.all 2 (by omega)
        obtain ⟨r3, q3⟩ := HX5.out.room.all 3 (by omega)
        simp only [Nat.zero_add] at q0 q1 q2 q3
        have n0 := HX5.out.room.free 0
        have n1 := HX5.out.room.free 1
        have n2 := HX5.out.room.free 2
        have n3 := HX5.out.room.free 3
        have g0 := HX5.out.fm 3
        have HX6 := Lib.hid (HX5.out.set hC HO.out 3 (.int .i64 1000))
        have HD := Lib.hid (end_waitB (q := ⟨m.who, m.mill, m.amount, 1000⟩) HX6.out hC HO.out ⟨HM1.out, HM2.out⟩)
        clear HX5 HX6
        go_wp2
        exact bodyPost_ret (v := .agg #[.string m.who, .string m.mill, .int .i64 m.amount, .int .i64 1000]) (by simp [results, Tryz.results95, go_sem, q0, q1, q2, q3]) rfl HD.out
      · have b0 := HX5.out.is 0 _ rfl
        have b1 := HX5.out.is 1 _ rfl
        have b2 := HX5.out.is 2 _ rfl
        have b3 := HX5.out.is 3 _ rfl
        obtain ⟨r0, q0⟩ := HX5.out.room.all 0 (by omega)
        obtain ⟨r1, q1⟩ := HX5.out.room.all 1 (by omega)
        obtain ⟨r2, q2⟩ := HX5.out.room.all 2 (by omega)
        obtain ⟨r3, q3⟩ := HX5.out.room.all 3 (by omega)
        simp only [Nat.zero_add] at q0 q1 q2 q3
        have n0 := HX5.out.room.free 0
        have n1 := HX5.out.room.free 1
        have n2 := HX5.out.room.free 2
        have n3 := HX5.out.room.free 3
        have g0 := HX5.out.fm 3
        have HX6 := Lib.hid (HX5.out.set hC HO.out 3 (.int .i64 1001))
        have HD := Lib.hid (end_waitB (q := ⟨m.who, m.mill, m.amount, 1001⟩) HX6.out hC HO.out ⟨HM1.out, HM2.out⟩)
        clear HX5 HX6
        go_wp2
        exact bodyPost_ret (v := .agg #[.string m.who, .string m.mill, .int .i64 m.amount, .int .i64 1001]) (by simp [results, Tryz.results95, go_sem, q0, q1, q2, q3]) rfl HD.out

theorem waitingL_short {ps : List Wai} (h : ∀ p ∈ ps, WShort p) {q : Wai} (hq : WShort q) : ∀ p ∈ waitingL ps q, WShort p := by
  intro p hp
  unfold waitingL at hp
  split at hp
  · split at hp
    · unfold putW at hp
      simp only [List.mem_append, List.mem_singleton] at hp
      rcases hp with (hp | rfl) | hp
      · exact h p (List.mem_of_mem_take hp)
      · exact hq
      · exact h p (List.mem_of_mem_drop hp)
    · exact h p hp
  · simp at hp
theorem waitingL_more (ps : List Wai) (q : Wai) : (waitingL ps q).length ≤ ps.length + 1 := by
  unfold waitingL
  split
  · split
    · unfold putW; have := lowW_le ps q.ripe; simp; omega
    · omega
  · simp
theorem wshort_max {s : ByteArray} (h : s.size ≤ 7) : s.size ≤ maxLen := Nat.le_trans h (by unfold maxLen; omega)
theorem wshort_sized {ps : List Wai} (h : ∀ p ∈ ps, WShort p) : WSized ps :=
  wsized_mem.2 fun p hp => ⟨wshort_max (h p hp).1, wshort_max (h p hp).2⟩
/-- One more waits. -/
theorem drawnWaits {C : Nat} {a : Option Addr} {len cap : Nat} {w : World} {g cp : Nat} {xs : List Wai} {w4 : World} (h : OwnG Wai.cs 4 74 WShort C a len cap w g cp xs w4) (hx : xs.length ≤ 5) {q : Wai} (hq : WShort q) :
    Calls Tryz.prog 93 #[.slice (some ⟨g, 0, none⟩) xs.length cp, .agg #[.string q.who, .string q.mill, .int .i64 q.amount, .int .i64 q.ripe]] w4 fun e w5 => ∃ g' c' ys, e = .returned (.tuple #[.slice (some ⟨g', 0, none⟩) ys.length c', .bool (waitingB xs q)]) ∧ ys.length ≤ xs.length + 1 ∧ OwnG Wai.cs 4 74 WShort C a len cap w g' c' ys w5 := by
  refine (sWaiting_any cp q (h.lies Wai.len) (own_some h.own).2.1 (by omega) (wshort_sized h.all) ⟨wshort_max hq.1, wshort_max hq.2⟩).mono ?_
  rintro e w6 ⟨g6, c6, rfl, ho6, hb6⟩
  exact ⟨g6, c6, _, rfl, waitingL_more _ _, h.turn ho6 hb6 (waitingL_short h.all hq)⟩

/-- The list of a draw. -/
def DrawnWL (C : Nat) (a : Option Addr) (len cap : Nat) (w : World) (m : Nat) (e : Ending) (w' : World) : Prop :=
  ∃ g cp xs, e = .returned (.slice (some ⟨g, 0, none⟩) xs.length cp) ∧ xs.length ≤ m ∧ OwnG Wai.cs 4 74 WShort C a len cap w g cp xs w'
/-- Between the rounds. -/
def DrawRelW (C : Nat) (a : Option Addr) (len cap : Nat) (w : World) (v i : Value) (wr : World) : Prop :=
  ∃ g cp xs, ∃ k : Nat, v = .slice (some ⟨g, 0, none⟩) xs.length cp ∧ i = .int .i64 k ∧ xs.length + k ≤ 5 ∧ OwnG Wai.cs 4 74 WShort C a len cap w g cp xs wr
/-- Between the rounds of the second loop. -/
def FillRelW (C : Nat) (a : Option Addr) (len cap : Nat) (w : World) (v : Value) (wr : World) : Prop :=
  ∃ g cp xs, v = .slice (some ⟨g, 0, none⟩) xs.length cp ∧ xs.length ≤ 21 ∧ OwnG Wai.cs 4 74 WShort C a len cap w g cp xs wr
def lenV : Value → Nat
  | .slice _ n _ => n
  | _ => 0

set_option maxHeartbeats 4000000 in
set_option maxRecDepth 100000 in
theorem l6DrawList_any {C : Nat} {a : Option Addr} {len cap : Nat} {w : World} (h : Cur w C a len cap) :
    Calls Tryz.prog 56 #[.pointer (some ⟨C, 0, none⟩)] w (DrawnWL C a len cap w 21) := by
  have hC : C < w.heap.size := lt_of_cell h.c0
  have HA := Lib.hid h.old
  have HC0 := Lib.hid (h.kept (below_new w (.cells #[] 74)))
  clear h
  obtain ⟨i0, hi, hz0, hz1, hz2⟩ := info_parts info_Wait
  have HI := Lib.hid hi
  have HZ0 := Lib.hid hz0
  have HZ1 := Lib.hid hz1
  have HZ2 := Lib.hid hz2
  clear hi hz0 hz1 hz2
  go_enter Tryz.func56, Tryz.ntmps56
  go_wp2_with fail
  refine (l1Below_any _ HC0.out (by omega) (by omega)).mono ?_
  rintro e w1 ⟨x, ⟨hx, hx2⟩, rfl, hc1, hg1⟩
  obtain ⟨k, rfl⟩ : ∃ k : Nat, x = k := ⟨x.toNat, by omega⟩
  have HR0 : Hid (DrawRelW C a len cap w (.slice (some ⟨w.heap.size, 0, none⟩) 0 0) (.int .i64 k) w1) := by
    have ho := ownG_lit (f := Wai.cs) (c := 4) (T := 74) (Z := WShort) (w := w) Wai.len hC (grown_refl w _) [] (by simp) (by simp) hc1 (by simpa using hg1) 0 (Nat.le_refl _)
    exact ⟨w.heap.size, 0, [], k, rfl, rfl, by simp; omega, by simpa using ho⟩
  clear hc1 hg1
  go_wp2_with fail
  go_loopw [3, 4] (fun v i wr => DrawRelW C a len cap w v i wr) (fun _ i _ => (intOf i).toNat)
  case atStart => exact HR0.out
  case round =>
    clear HR0 hx hx2
    obtain ⟨g, cp, xs, i, rfl, rfl, hxl, hG⟩ := hrel
    have HG := Lib.hid hG
    clear hG
    by_cases hi0 : 0 < i
    · go_wp2_with fail
      refine (l6Draw_any HG.out.cur).mono ?_
      rintro e w3 ⟨q, hq, rfl, hc3, hg3⟩
      have HG3 := Lib.hid (HG.out.draw hC hc3 hg3)
      have HQ := Lib.hid hq
      clear hc3 hg3 hq HG
      go_wp2_with fail
      refine (drawnWaits HG3.out (by omega) HQ.out).mono ?_
      rintro e w4 ⟨g4, c4, ys, rfl, hys, hG4⟩
      have HG4 := Lib.hid hG4
      clear hG4 HG3
      go_wp2
      go_roundw
      case rel => exact ⟨g4, c4, ys, i - 1, rfl, by go_num, by omega, HG4.out⟩
      case measure => simp [intOf]; omega
    · obtain rfl : i = 0 := by omega
      go_wp2_with fail
      refine (l1Once_any _ HG.out.cur (by omega) (by omega)).mono ?_
      rintro e w3 ⟨t, rfl, hc3, hg3⟩
      have HG3 := Lib.hid (HG.out.draw hC hc3 hg3)
      clear hc3 hg3 HG
      cases t
      · go_wp2_with fail
        refine (l1Once_any _ HG3.out.cur (by omega) (by omega)).mono ?_
        rintro e w8 ⟨t, rfl, hc8, hg8⟩
        have HG8 := Lib.hid (HG3.out.draw hC hc8 hg8)
        clear hc8 hg8
        cases t
        · have HN := Lib.hid (show DrawnWL C a len cap w 21 (.returned (.slice (some ⟨g, 0, none⟩) xs.length cp)) w8 from ⟨g, cp, xs, rfl, by omega, HG8.out⟩)
          go_wp2
          go_ret
          exact HN.out
        · go_wp2_with fail
          go_loopw [3] (fun v wr => FillRelW C a len cap w v wr) (fun v _ => 21 - lenV v)
          case atStart => exact ⟨g, cp, xs, rfl, by omega, HG8.out⟩
          case round =>
            clear HG8
            obtain ⟨gz, cz, zs, rfl, hzl, hG⟩ := hrel
            have HGZ := Lib.hid hG
            clear hG
            go_wp2_with fail
            refine (l1Below_any _ HGZ.out.cur (by omega) (by omega)).mono ?_
            rintro e w9 ⟨x, ⟨hx, hx2⟩, rfl, hc9, hg9⟩
            have HG9 := Lib.hid (HGZ.out.draw hC hc9 hg9)
            clear hc9 hg9 HGZ
            have hwx : IntKind.i64.wrap (20 + x) = 20 + x := IntWalk.i64_in _ (by omega)
            by_cases hlt : (zs.length : Int) < 20 + x
            · have HL := Lib.hid (HG9.out.new (.cells #[.string ⟨#[97, 110, 110]⟩, .string ⟨#[109, 105, 97]⟩, .int .i64 1, .int .i64 9] 74))
              go_wp2_with (at_builtin; refine wpList_append_some rfl _ _ 27 rfl w.heap.size 74 i0 (.agg #[.string ByteArray.empty, .string ByteArray.empty, .int .i64 0, .int .i64 0]) 4 48 Tryz.underlying27 HI.out HZ0.out HZ1.out HZ2.out rfl (by decide) gz cz zs.length (zs.flatMap Wai.cs) rfl HL.out.own ⟨w9.heap.size, 0, none⟩ 1 1 (Wai.cs ⟨⟨#[97, 110, 110]⟩, ⟨#[109, 105, 97]⟩, 1, 9⟩) rfl rfl ?c1 (Wai.one _) ?c2 ?c3 ?_)
              case c1 =>
                intro j u hj
                rw [add_plain]
                have := RecAt.new Wai.cs w9 (⟨⟨#[97, 110, 110]⟩, ⟨#[109, 105, 97]⟩, 1, 9⟩ : Wai) 74 j u hj
                rw [Nat.zero_add]; exact this
              case c2 => unfold maxLen; omega
              case c3 => omega
              rintro g7 c7 w7 ⟨h7, h7g, h7b, h7l, h7x⟩
              have HNZ := Lib.hid (show OwnG Wai.cs 4 74 WShort C a len cap w g7 c7 (zs ++ [⟨⟨#[97, 110, 110]⟩, ⟨#[109, 105, 97]⟩, 1, 9⟩]) w7 from HL.out.more hC HA.out rfl rfl (by intro y hy; simp only [List.mem_singleton] at hy; subst hy; exact ⟨by decide, by decide⟩) HL.out.cur HL.out.grown cz (by simpa using h7) h7g)
              clear h7 h7g h7b h7l h7x
              go_wp2
              go_roundw
              case rel => exact ⟨g7, c7, _, by simp, by simp; omega, HNZ.out⟩
              case measure => simp [lenV]; omega
            · have HN := Lib.hid (show DrawnWL C a len cap w 21 (.returned (.slice (some ⟨gz, 0, none⟩) zs.length cz)) w9 from ⟨gz, cz, zs, rfl, hzl, HG9.out⟩)
              go_wp2
              go_ret
              exact HN.out
      · go_wp2_with fail
        refine (l6DrawAny_any HG3.out.cur).mono ?_
        rintro e w4 ⟨q, hq, rfl, hc4, hg4⟩
        have HG4 := Lib.hid (HG3.out.draw hC hc4 hg4)
        have HQ := Lib.hid hq
        clear hc4 hg4 hq HG3
        have HL := Lib.hid (HG4.out.new (.cells #[.string q.who, .string q.mill, .int .i64 q.amount, .int .i64 q.ripe] 74))
        go_wp2_with (at_builtin; refine wpList_append_some rfl _ _ 27 rfl w.heap.size 74 i0 (.agg #[.string ByteArray.empty, .string ByteArray.empty, .int .i64 0, .int .i64 0]) 4 48 Tryz.underlying27 HI.out HZ0.out HZ1.out HZ2.out rfl (by decide) g cp xs.length (xs.flatMap Wai.cs) rfl HL.out.own ⟨w4.heap.size, 0, none⟩ 1 1 (Wai.cs q) rfl rfl ?c1 (Wai.one _) ?c2 ?c3 ?_)
        case c1 =>
          intro j u hj
          rw [add_plain]
          have := RecAt.new Wai.cs w4 (q : Wai) 74 j u hj
          rw [Nat.zero_add]; exact this
        case c2 => unfold maxLen; omega
        case c3 => omega
        rintro g7 c7 w7 ⟨h7, h7g, h7b, h7l, h7x⟩
        have HG5 := Lib.hid (show OwnG Wai.cs 4 74 WShort C a len cap w g7 c7 (xs ++ [q]) w7 from HL.out.more hC HA.out rfl rfl (by intro y hy; simp only [List.mem_singleton] at hy; subst hy; exact HQ.out) HL.out.cur HL.out.grown cp (by simpa using h7) h7g)
        clear h7 h7g h7b h7l h7x
        obtain ⟨ys, HYS⟩ : ∃ ys, Hid (xs ++ [q] = ys) := ⟨_, Lib.hid rfl⟩
        have HG6 := HG5.out
        rw [HYS.out] at HG6
        have HGY := Lib.hid HG6
        have hyl : xs.length + 1 = ys.length := by rw [← HYS.out]; simp
        have hyl2 : ys.length ≤ 6 := by omega
        clear HG6 HG5 HYS HL HG4
        rw [hyl]
        clear hyl
        go_wp2_with fail
        refine (l1Once_any _ HGY.out.cur (by omega) (by omega)).mono ?_
        rintro e w8 ⟨t, rfl, hc8, hg8⟩
        have HG8 := Lib.hid (HGY.out.draw hC hc8 hg8)
        clear hc8 hg8
        cases t
        · have HN := Lib.hid (show DrawnWL C a len cap w 21 (.returned (.slice (some ⟨g7, 0, none⟩) ys.length c7)) w8 from ⟨g7, c7, ys, rfl, by omega, HG8.out⟩)
          go_wp2
          go_ret
          exact HN.out
        · go_wp2_with fail
          go_loopw [3] (fun v wr => FillRelW C a len cap w v wr) (fun v _ => 21 - lenV v)
          case atStart => exact ⟨g7, c7, ys, rfl, by omega, HG8.out⟩
          case round =>
            clear HG8
            obtain ⟨gz, cz, zs, rfl, hzl, hG⟩ := hrel
            have HGZ := Lib.hid hG
            clear hG
            go_wp2_with fail
            refine (l1Below_any _ HGZ.out.cur (by omega) (by omega)).mono ?_
            rintro e w9 ⟨x, ⟨hx, hx2⟩, rfl, hc9, hg9⟩
            have HG9 := Lib.hid (HGZ.out.draw hC hc9 hg9)
            clear hc9 hg9 HGZ
            have hwx : IntKind.i64.wrap (20 + x) = 20 + x := IntWalk.i64_in _ (by omega)
            by_cases hlt : (zs.length : Int) < 20 + x
            · have HL := Lib.hid (HG9.out.new (.cells #[.string ⟨#[97, 110, 110]⟩, .string ⟨#[109, 105, 97]⟩, .int .i64 1, .int .i64 9] 74))
              go_wp2_with (at_builtin; refine wpList_append_some rfl _ _ 27 rfl w.heap.size 74 i0 (.agg #[.string ByteArray.empty, .string ByteArray.empty, .int .i64 0, .int .i64 0]) 4 48 Tryz.underlying27 HI.out HZ0.out HZ1.out HZ2.out rfl (by decide) gz cz zs.length (zs.flatMap Wai.cs) rfl HL.out.own ⟨w9.heap.size, 0, none⟩ 1 1 (Wai.cs ⟨⟨#[97, 110, 110]⟩, ⟨#[109, 105, 97]⟩, 1, 9⟩) rfl rfl ?c1 (Wai.one _) ?c2 ?c3 ?_)
              case c1 =>
                intro j u hj
                rw [add_plain]
                have := RecAt.new Wai.cs w9 (⟨⟨#[97, 110, 110]⟩, ⟨#[109, 105, 97]⟩, 1, 9⟩ : Wai) 74 j u hj
                rw [Nat.zero_add]; exact this
              case c2 => unfold maxLen; omega
              case c3 => omega
              rintro g7 c7 w7 ⟨h7, h7g, h7b, h7l, h7x⟩
              have HNZ := Lib.hid (show OwnG Wai.cs 4 74 WShort C a len cap w g7 c7 (zs ++ [⟨⟨#[97, 110, 110]⟩, ⟨#[109, 105, 97]⟩, 1, 9⟩]) w7 from HL.out.more hC HA.out rfl rfl (by intro y hy; simp only [List.mem_singleton] at hy; subst hy; exact ⟨by decide, by decide⟩) HL.out.cur HL.out.grown cz (by simpa using h7) h7g)
              clear h7 h7g h7b h7l h7x
              go_wp2
              go_roundw
              case rel => exact ⟨g7, c7, _, by simp, by simp; omega, HNZ.out⟩
              case measure => simp [lenV]; omega
            · have HN := Lib.hid (show DrawnWL C a len cap w 21 (.returned (.slice (some ⟨gz, 0, none⟩) zs.length cz)) w9 from ⟨gz, cz, zs, rfl, hzl, HG9.out⟩)
              go_wp2
              go_ret
              exact HN.out

/-- A list that was drawn. -/
structure GotW (w' : World) (g c : Nat) (xs : List Wai) : Prop where
  lies : Recs Wai.cs w' (some ⟨g, 0, none⟩) xs
  fits : xs.length ≤ c
  few : xs.length ≤ 21
  short : ∀ p ∈ xs, WShort p
end Go.Proofs.YtlnnchgaloejlaaGreat
namespace Go.Proofs.YtlnnchgaloejlaaGreat
open Go.ChangeShapes Go.WideShapes Go.ChangeAt Go.RowKit

/-- Any book that is drawn, of the call's own. -/
def DrawnAb (C : Nat) (a : Option Addr) (len cap : Nat) (w : World) (e : Ending) (w' : World) : Prop :=
  ∃ (b : Bok) (s : Spots), BLen b ∧ BSized b ∧ e = .returned (.agg #[.int .i64 b.season, .int .i64 b.supply, .int .i64 b.burnt, .int .i64 b.pot, .slice s.fa b.folk.length s.fc, .slice s.ma b.mills.length s.mc, .slice s.pa b.parts.length s.pc, .slice s.wa b.waits.length s.wc]) ∧ OwnB w' w.heap.size b s ∧ Cur w' C a len cap ∧ w.grownBy w' (some C)
/-- A book of the call's own under way, right or not: it lies in block X, the result's block is as it was made. -/
structure AnyB (w : World) (C : Nat) (a : Option Addr) (len cap X : Nat) (b : Bok) (s : Spots) (W : World) : Prop where
  way : Way w C a len cap W
  x : OutV W X [.int .i64 b.season, .int .i64 b.supply, .int .i64 b.burnt, .int .i64 b.pot, .slice s.fa b.folk.length s.fc, .slice s.ma b.mills.length s.mc, .slice s.pa b.parts.length s.pc, .slice s.wa b.waits.length s.wc]
  o : OwnB W (w.heap.size + 1) b s
  n : NotIn b s X
  r : OutV W w.heap.size [.int .i64 0, .int .i64 0, .int .i64 0, .int .i64 0, .slice none 0 0, .slice none 0 0, .slice none 0 0, .slice none 0 0]
  bl : BLen b
  bz : BSized b
  lo : w.heap.size < X
section
variable {w W W' : World} {C X len cap : Nat} {a : Option Addr} {b : Bok} {s : Spots}
theorem AnyB.draw (h : AnyB w C a len cap X b s W) (hc : Cur W' C a len cap) (hg : W.grownBy W' (some C)) : AnyB w C a len cap X b s W' := by
  have hC := h.way.hC
  have hX := h.lo
  exact ⟨h.way.draw hc hg, h.x.keep hg (by omega), h.o.grown hg (by omega), h.n, h.r.keep hg (by omega), h.bl, h.bz, h.lo⟩
theorem AnyB.below (h : AnyB w C a len cap X b s W) (hb : Below W.heap.size W W') : AnyB w C a len cap X b s W' :=
  ⟨h.way.below hb, h.x.below hb, h.o.below hb, h.n, h.r.below hb, h.bl, h.bz, h.lo⟩
theorem AnyB.keepX (h : AnyB w C a len cap X b s W) (j : Nat) (v : Value) : Way w C a len cap (W.setCell ⟨X, j, none⟩ v) ∧ OwnB (W.setCell ⟨X, j, none⟩ v) (w.heap.size + 1) b s ∧ OutV (W.setCell ⟨X, j, none⟩ v) w.heap.size [.int .i64 0, .int .i64 0, .int .i64 0, .int .i64 0, .slice none 0 0, .slice none 0 0, .slice none 0 0, .slice none 0 0] := by
  have hX := h.lo
  have gs := gset (o := j) (gid W (some X)) v
  exact ⟨h.way.set (by omega) j v, h.o.apart gs h.n, h.r.keep gs (by omega)⟩
theorem AnyB.setSeason (h : AnyB w C a len cap X b s W) (v : Int) : AnyB w C a len cap X (b.wSeason v) s (W.setCell ⟨X, 0, none⟩ (.int .i64 v)) := by
  obtain ⟨h1, h2, h3⟩ := h.keepX 0 (.int .i64 v)
  exact ⟨h1, h.x.set 0 (.int .i64 v), h2.wSeason v, ⟨h.n.folk, h.n.mills, h.n.parts, h.n.waits⟩, h3, ⟨h.bl.fl, h.bl.ml, h.bl.pl, h.bl.wl⟩, ⟨h.bz.fs, h.bz.ms, h.bz.ps, h.bz.ws⟩, h.lo⟩
theorem AnyB.setSupply (h : AnyB w C a len cap X b s W) (v : Int) : AnyB w C a len cap X (b.wSupply v) s (W.setCell ⟨X, 1, none⟩ (.int .i64 v)) := by
  obtain ⟨h1, h2, h3⟩ := h.keepX 1 (.int .i64 v)
  exact ⟨h1, h.x.set 1 (.int .i64 v), h2.wSupply v, ⟨h.n.folk, h.n.mills, h.n.parts, h.n.waits⟩, h3, ⟨h.bl.fl, h.bl.ml, h.bl.pl, h.bl.wl⟩, ⟨h.bz.fs, h.bz.ms, h.bz.ps, h.bz.ws⟩, h.lo⟩
theorem AnyB.setPot (h : AnyB w C a len cap X b s W) (v : Int) : AnyB w C a len cap X (b.wPot v) s (W.setCell ⟨X, 3, none⟩ (.int .i64 v)) := by
  obtain ⟨h1, h2, h3⟩ := h.keepX 3 (.int .i64 v)
  exact ⟨h1, h.x.set 3 (.int .i64 v), h2.wPot v, ⟨h.n.folk, h.n.mills, h.n.parts, h.n.waits⟩, h3, ⟨h.bl.fl, h.bl.ml, h.bl.pl, h.bl.wl⟩, ⟨h.bz.fs, h.bz.ms, h.bz.ps, h.bz.ws⟩, h.lo⟩
theorem AnyB.setFolk (h : AnyB w C a len cap X b s W) (hc : Cur W' C a len cap) (hg : W.grownBy W' (some C)) {g cg : Nat} {l : List Pur} (hl : l.length ≤ 1048576) (hs : Sized (pnames l)) (hp : OwnP W' W.heap.size (some ⟨g, 0, none⟩) l) (hcg : l.length ≤ cg) (hgl : W.heap.size ≤ g) :
    AnyB w C a len cap X (b.wFolk l) (s.wF (some ⟨g, 0, none⟩) cg) (W'.setCell ⟨X, 4, none⟩ (.slice (some ⟨g, 0, none⟩) l.length cg)) := by
  have hX := h.x.lt
  have hlo := h.lo
  obtain ⟨h1, h2, h3⟩ := (h.draw hc hg).keepX 4 (.slice (some ⟨g, 0, none⟩) l.length cg)
  have gs := gset (o := 4) (gid W' (some X)) (.slice (some ⟨g, 0, none⟩) l.length cg)
  have op := hp.grown gs hX
  exact ⟨h1, (h.draw hc hg).x.set 4 (.slice (some ⟨g, 0, none⟩) l.length cg), h2.wFolk (op.mono (by omega)) (.inr ⟨_, rfl⟩) hcg (apart_lt h.o.mills.hi op.lo (Nat.le_refl _)).symm (apart_lt h.o.parts.hi op.lo (Nat.le_refl _)).symm (apart_lt h.o.waits.hi op.lo (Nat.le_refl _)).symm, h.n.wFolk (fun x' e _ => by injection e with e; injection e with e; omega), h3, ⟨hl, h.bl.ml, h.bl.pl, h.bl.wl⟩, ⟨hs, h.bz.ms, h.bz.ps, h.bz.ws⟩, h.lo⟩
theorem AnyB.setMills (h : AnyB w C a len cap X b s W) (hc : Cur W' C a len cap) (hg : W.grownBy W' (some C)) {g cg : Nat} {l : List Mil} (hl : l.length ≤ 1048576) (hs : Sized (mnames l)) (hp : OwnR Mil.cs 5 W' W.heap.size (some ⟨g, 0, none⟩) l) (hcg : l.length ≤ cg) (hgl : W.heap.size ≤ g) :
    AnyB w C a len cap X (b.wMills l) (s.wM (some ⟨g, 0, none⟩) cg) (W'.setCell ⟨X, 5, none⟩ (.slice (some ⟨g, 0, none⟩) l.length cg)) := by
  have hX := h.x.lt
  have hlo := h.lo
  obtain ⟨h1, h2, h3⟩ := (h.draw hc hg).keepX 5 (.slice (some ⟨g, 0, none⟩) l.length cg)
  have gs := gset (o := 5) (gid W' (some X)) (.slice (some ⟨g, 0, none⟩) l.length cg)
  have op := hp.grown gs hX
  exact ⟨h1, (h.draw hc hg).x.set 5 (.slice (some ⟨g, 0, none⟩) l.length cg), h2.wMills (op.mono (by omega)) (.inr ⟨_, rfl⟩) hcg (apart_lt h.o.folk.hi op.lo (Nat.le_refl _)) (apart_lt h.o.parts.hi op.lo (Nat.le_refl _)).symm (apart_lt h.o.waits.hi op.lo (Nat.le_refl _)).symm, h.n.wMills (fun x' e _ => by injection e with e; injection e with e; omega), h3, ⟨h.bl.fl, hl, h.bl.pl, h.bl.wl⟩, ⟨h.bz.fs, hs, h.bz.ps, h.bz.ws⟩, h.lo⟩
theorem AnyB.setParts (h : AnyB w C a len cap X b s W) (hc : Cur W' C a len cap) (hg : W.grownBy W' (some C)) {g cg : Nat} {l : List Par} (hl : l.length ≤ 1048576) (hs : PSized l) (hp : OwnR Par.cs 3 W' W.heap.size (some ⟨g, 0, none⟩) l) (hcg : l.length ≤ cg) (hgl : W.heap.size ≤ g) :
    AnyB w C a len cap X (b.wParts l) (s.wP (some ⟨g, 0, none⟩) cg) (W'.setCell ⟨X, 6, none⟩ (.slice (some ⟨g, 0, none⟩) l.length cg)) := by
  have hX := h.x.lt
  have hlo := h.lo
  obtain ⟨h1, h2, h3⟩ := (h.draw hc hg).keepX 6 (.slice (some ⟨g, 0, none⟩) l.length cg)
  have gs := gset (o := 6) (gid W' (some X)) (.slice (some ⟨g, 0, none⟩) l.length cg)
  have op := hp.grown gs hX
  exact ⟨h1, (h.draw hc hg).x.set 6 (.slice (some ⟨g, 0, none⟩) l.length cg), h2.wParts (op.mono (by omega)) (.inr ⟨_, rfl⟩) hcg (apart_lt h.o.folk.hi op.lo (Nat.le_refl _)) (apart_lt h.o.mills.hi op.lo (Nat.le_refl _)) (apart_lt h.o.waits.hi op.lo (Nat.le_refl _)).symm, h.n.wParts (fun x' e _ => by injection e with e; injection e with e; omega), h3, ⟨h.bl.fl, h.bl.ml, hl, h.bl.wl⟩, ⟨h.bz.fs, h.bz.ms, hs, h.bz.ws⟩, h.lo⟩
theorem AnyB.setWaits (h : AnyB w C a len cap X b s W) (hc : Cur W' C a len cap) (hg : W.grownBy W' (some C)) {g cg : Nat} {l : List Wai} (hl : l.length ≤ 1048576) (hs : WSized l) (hp : OwnR Wai.cs 4 W' W.heap.size (some ⟨g, 0, none⟩) l) (hcg : l.length ≤ cg) (hgl : W.heap.size ≤ g) :
    AnyB w C a len cap X (b.wWaits l) (s.wW (some ⟨g, 0, none⟩) cg) (W'.setCell ⟨X, 7, none⟩ (.slice (some ⟨g, 0, none⟩) l.length cg)) := by
  have hX := h.x.lt
  have hlo := h.lo
  obtain ⟨h1, h2, h3⟩ := (h.draw hc hg).keepX 7 (.slice (some ⟨g, 0, none⟩) l.length cg)
  have gs := gset (o := 7) (gid W' (some X)) (.slice (some ⟨g, 0, none⟩) l.length cg)
  have op := hp.grown gs hX
  exact ⟨h1, (h.draw hc hg).x.set 7 (.slice (some ⟨g, 0, none⟩) l.length cg), h2.wWaits (op.mono (by omega)) (.inr ⟨_, rfl⟩) hcg (apart_lt h.o.folk.hi op.lo (Nat.le_refl _)) (apart_lt h.o.mills.hi op.lo (Nat.le_refl _)) (apart_lt h.o.parts.hi op.lo (Nat.le_refl _)), h.n.wWaits (fun x' e _ => by injection e with e; injection e with e; omega), h3, ⟨h.bl.fl, h.bl.ml, h.bl.pl, hl⟩, ⟨h.bz.fs, h.bz.ms, h.bz.ps, hs⟩, h.lo⟩
theorem end_any (h : AnyB w C a len cap X b s W) : DrawnAb C a len cap w (.returned (.agg #[.int .i64 b.season, .int .i64 b.supply, .int .i64 b.burnt, .int .i64 b.pot, .slice s.fa b.folk.length s.fc, .slice s.ma b.mills.length s.mc, .slice s.pa b.parts.length s.pc, .slice s.wa b.waits.length s.wc])) (putB W w.heap.size b s) :=
  have hw := h.way.putB (Nat.le_refl _) b s
  ⟨b, s, h.bl, h.bz, rfl, (h.o.grown (putB_grown _ _ _ _) (by omega)).mono (by omega), hw.cur, hw.grown⟩
end
theorem ownG_own {α : Type} {f : α → List Value} {c : Nat} {T : TypeId} {Z : α → Prop} {C : Nat} {a : Option Addr} {len cap : Nat} {w : World} {g cp : Nat} {xs : List α} {w' : World} (hc : ∀ x, (f x).length = c) (h : OwnG f c T Z C a len cap w g cp xs w') : OwnR f c w' w.heap.size (some ⟨g, 0, none⟩) xs ∧ True := by
  obtain ⟨b, k, e, hr, -⟩ := ownR_of hc h.own
  injection e with e1 e2 e3
  subst e1
  exact ⟨hr, trivial⟩
theorem ownD_own {C : Nat} {a : Option Addr} {len cap : Nat} {w : World} {g c : Nat} {ps : List Pur} {w' : World} (h : OwnD C a len cap w g c ps w') : OwnP w' w.heap.size (some ⟨g, 0, none⟩) ps := by
  have ho := h.own
  rw [pcells_flat] at ho
  obtain ⟨b, k, e, hr, -⟩ := ownR_of purs_len ho
  injection e with e1 e2 e3
  subst e1
  exact ⟨recs_purs hr.1, hr.2⟩

set_option maxRecDepth 100000 in
set_option maxHeartbeats 32000000 in
set_option maxRecDepth 100000 in
theorem l7DrawAny_any {C : Nat} {a : Option Addr} {len cap : Nat} {w : World} (h : Cur w C a len cap) :
    Calls Tryz.prog 18 #[.pointer (some ⟨C, 0, none⟩)] w (DrawnAb C a len cap w) := by
  have hC : C < w.heap.size := lt_of_cell h.c0
  have HW := Lib.hid (Way.start h)
  clear h
  have bz := below_new w (.cells #[.int .i64 0, .int .i64 0, .int .i64 0, .int .i64 0, .slice none 0 0, .slice none 0 0, .slice none 0 0, .slice none 0 0] 29)
  have R := Lib.hid (OutV.new w [.int .i64 0, .int .i64 0, .int .i64 0, .int .i64 0, .slice none 0 0, .slice none 0 0, .slice none 0 0, .slice none 0 0] 29)
  obtain ⟨W1, hW1⟩ : ∃ W, w.alloc (.cells #[.int .i64 0, .int .i64 0, .int .i64 0, .int .i64 0, .slice none 0 0, .slice none 0 0, .slice none 0 0, .slice none 0 0] 29) = W := ⟨_, rfl⟩
  rw [show w.alloc (.cells ([.int .i64 0, .int .i64 0, .int .i64 0, .int .i64 0, .slice none 0 0, .slice none 0 0, .slice none 0 0, .slice none 0 0] : List Value).toArray 29) = W1 from hW1] at R
  have hs1 : W1.heap.size = w.heap.size + 1 := by rw [← hW1]; simp
  have HS1 := Lib.hid hs1
  rw [hW1] at bz
  replace HW := Lib.hid (HW.out.below bz)
  have hCR : C ≠ w.heap.size := by omega
  clear bz hs1
  go_enter Tryz.func18, Tryz.ntmps18
  go_wp2_with fail
  refine (l7Draw_any HW.out.cur).mono ?_
  rintro e w2 ⟨b, s, hok, rfl, ho, hc, hg⟩
  replace HW := Lib.hid (HW.out.draw hc hg)
  replace R := Lib.hid (R.out.keep hg hCR)
  have bn := below_new w2 (.cells #[.int .i64 b.season, .int .i64 b.supply, .int .i64 b.burnt, .int .i64 b.pot, .slice s.fa b.folk.length s.fc, .slice s.ma b.mills.length s.mc, .slice s.pa b.parts.length s.pc, .slice s.wa b.waits.length s.wc] 29)
  have hlt2 := R.out.lt
  have HBD := Lib.hid (show b.supply ≤ 1000000 ∧ 0 ≤ b.supply by have := inB_bd (lists_all (book_true hok).1).2.2.1; omega)
  have HF := Lib.hid (show AnyB w C a len cap w2.heap.size b s (w2.alloc (.cells #[.int .i64 b.season, .int .i64 b.supply, .int .i64 b.burnt, .int .i64 b.pot, .slice s.fa b.folk.length s.fc, .slice s.ma b.mills.length s.mc, .slice s.pa b.parts.length s.pc, .slice s.wa b.waits.length s.wc] 29)) from ⟨HW.out.below bn, OutV.new w2 (#[.int .i64 b.season, .int .i64 b.supply, .int .i64 b.burnt, .int .i64 b.pot, .slice s.fa b.folk.length s.fc, .slice s.ma b.mills.length s.mc, .slice s.pa b.parts.length s.pc, .slice s.wa b.waits.length s.wc] : Array Value).toList 29, (ho.below bn).mono (by have := HS1.out; omega), ho.at.bold.notIn (Nat.le_refl _), R.out.below bn, book_len hok, book_sized hok, hlt2⟩)
  obtain ⟨X, hX⟩ : ∃ X, w2.heap.size = X := ⟨_, rfl⟩
  obtain ⟨W4, hW4⟩ : ∃ W, w2.alloc (.cells #[.int .i64 b.season, .int .i64 b.supply, .int .i64 b.burnt, .int .i64 b.pot, .slice s.fa b.folk.length s.fc, .slice s.ma b.mills.length s.mc, .slice s.pa b.parts.length s.pc, .slice s.wa b.waits.length s.wc] 29) = W := ⟨_, rfl⟩
  rw [hW4, hX] at HF
  clear ho hc hg bn hlt2 hok HW R HS1 hW1
  go_wp2_with fail
  refine (l1Once_any _ HF.out.way.cur (by omega) (by omega)).mono ?_
  rintro e w5 ⟨t, rfl, hc, hg⟩
  replace HF := Lib.hid (HF.out.draw hc hg)
  clear hc hg
  cases t
  · obtain ⟨bb, HB⟩ : ∃ y, Hid (b = y) := ⟨_, Lib.hid rfl⟩
    obtain ⟨ss, HS⟩ : ∃ y, Hid (s = y) := ⟨_, Lib.hid rfl⟩
    rw [HB.out, HS.out] at HF
    have r0 := HF.out.r.has 0 _ rfl
    have r1 := HF.out.r.has 1 _ rfl
    have r2 := HF.out.r.has 2 _ rfl
    have r3 := HF.out.r.has 3 _ rfl
    have r4 := HF.out.r.has 4 _ rfl
    have r5 := HF.out.r.has 5 _ rfl
    have r6 := HF.out.r.has 6 _ rfl
    have r7 := HF.out.r.has 7 _ rfl
    have rf := HF.out.r.free
    have x0 := HF.out.x.has 0 _ rfl
    have x1 := HF.out.x.has 1 _ rfl
    have x2 := HF.out.x.has 2 _ rfl
    have x3 := HF.out.x.has 3 _ rfl
    have x4 := HF.out.x.has 4 _ rfl
    have x5 := HF.out.x.has 5 _ rfl
    have x6 := HF.out.x.has 6 _ rfl
    have x7 := HF.out.x.has 7 _ rfl
    have HE := Lib.hid (end_any HF.out)
    unfold putB at HE
    go_wp2
    exact bodyPost_ret (v := .agg #[.int .i64 bb.season, .int .i64 bb.supply, .int .i64 bb.burnt, .int .i64 bb.pot, .slice ss.fa bb.folk.length ss.fc, .slice ss.ma bb.mills.length ss.mc, .slice ss.pa bb.parts.length ss.pc, .slice ss.wa bb.waits.length ss.wc]) (by simp [results, Tryz.results18, go_sem, r0, r1, r2, r3, r4, r5, r6, r7]) rfl HE.out
  go_wp2_with fail
  refine (l1Below_any _ HF.out.way.cur (by omega) (by omega)).mono ?_
  rintro e w6 ⟨y, ⟨hy, hy2⟩, rfl, hc, hg⟩
  replace HF := Lib.hid (HF.out.draw hc hg)
  clear hc hg hW4
  have hy7 : y = 0 ∨ y = 1 ∨ y = 2 ∨ y = 3 ∨ y = 4 ∨ y = 5 ∨ y = 6 := by omega
  clear hy hy2
  rcases hy7 with rfl | rfl | rfl | rfl | rfl | rfl | rfl
  · go_wp2_with fail
    refine (l1Below_any _ (HF.out.way.cur.kept (below_new _ _)) (by omega) (by omega)).mono ?_
    rintro e w7 ⟨x, ⟨hx, hx2⟩, rfl, hc, hg⟩
    have hlt := HF.out.way.grown.size
    have q0 := kept_cell (b := w6.heap.size) (o := 0) hg (by go_simp; rfl) (by omega)
    have q1 := kept_cell (b := w6.heap.size) (o := 1) hg (by go_simp; rfl) (by omega)
    have q2 := kept_cell (b := w6.heap.size) (o := 2) hg (by go_simp; rfl) (by omega)
    replace HF := Lib.hid ((HF.out.below (below_new _ _)).draw hc hg)
    clear hc hg
    have x0 := HF.out.x.has 0 _ rfl
    have xf := HF.out.x.free
    have hx3 : x = 0 ∨ x = 1 ∨ x = 2 := by omega
    rcases hx3 with rfl | rfl | rfl
    · replace HF := Lib.hid (HF.out.setSeason (-1))
      obtain ⟨V, hV⟩ : ∃ V, w7.setCell ⟨X, 0, none⟩ (.int .i64 (-1)) = V := ⟨_, rfl⟩
      rw [hV] at HF
      obtain ⟨bb, HB⟩ : ∃ y, Hid (b.wSeason (-1) = y) := ⟨_, Lib.hid rfl⟩
      obtain ⟨ss, HS⟩ : ∃ y, Hid (s = y) := ⟨_, Lib.hid rfl⟩
      rw [HB.out, HS.out] at HF
      have xq := HF.out.x.lt
      have r0 := HF.out.r.has 0 _ rfl
      have r1 := HF.out.r.has 1 _ rfl
      have r2 := HF.out.r.has 2 _ rfl
      have r3 := HF.out.r.has 3 _ rfl
      have r4 := HF.out.r.has 4 _ rfl
      have r5 := HF.out.r.has 5 _ rfl
      have r6 := HF.out.r.has 6 _ rfl
      have r7 := HF.out.r.has 7 _ rfl
      have rf := HF.out.r.free
      have x0 := HF.out.x.has 0 _ rfl
      have x1 := HF.out.x.has 1 _ rfl
      have x2 := HF.out.x.has 2 _ rfl
      have x3 := HF.out.x.has 3 _ rfl
      have x4 := HF.out.x.has 4 _ rfl
      have x5 := HF.out.x.has 5 _ rfl
      have x6 := HF.out.x.has 6 _ rfl
      have x7 := HF.out.x.has 7 _ rfl
      have HE := Lib.hid (end_any HF.out)
      unfold putB at HE
      go_wp2
      exact bodyPost_ret (v := .agg #[.int .i64 bb.season, .int .i64 bb.supply, .int .i64 bb.burnt, .int .i64 bb.pot, .slice ss.fa bb.folk.length ss.fc, .slice ss.ma bb.mills.length ss.mc, .slice ss.pa bb.parts.length ss.pc, .slice ss.wa bb.waits.length ss.wc]) (by simp [results, Tryz.results18, go_sem, r0, r1, r2, r3, r4, r5, r6, r7]) rfl HE.out
    · replace HF := Lib.hid (HF.out.setSeason 1000)
      obtain ⟨V, hV⟩ : ∃ V, w7.setCell ⟨X, 0, none⟩ (.int .i64 1000) = V := ⟨_, rfl⟩
      rw [hV] at HF
      obtain ⟨bb, HB⟩ : ∃ y, Hid (b.wSeason 1000 = y) := ⟨_, Lib.hid rfl⟩
      obtain ⟨ss, HS⟩ : ∃ y, Hid (s = y) := ⟨_, Lib.hid rfl⟩
      rw [HB.out, HS.out] at HF
      have xq := HF.out.x.lt
      have r0 := HF.out.r.has 0 _ rfl
      have r1 := HF.out.r.has 1 _ rfl
      have r2 := HF.out.r.has 2 _ rfl
      have r3 := HF.out.r.has 3 _ rfl
      have r4 := HF.out.r.has 4 _ rfl
      have r5 := HF.out.r.has 5 _ rfl
      have r6 := HF.out.r.has 6 _ rfl
      have r7 := HF.out.r.has 7 _ rfl
      have rf := HF.out.r.free
      have x0 := HF.out.x.has 0 _ rfl
      have x1 := HF.out.x.has 1 _ rfl
      have x2 := HF.out.x.has 2 _ rfl
      have x3 := HF.out.x.has 3 _ rfl
      have x4 := HF.out.x.has 4 _ rfl
      have x5 := HF.out.x.has 5 _ rfl
      have x6 := HF.out.x.has 6 _ rfl
      have x7 := HF.out.x.has 7 _ rfl
      have HE := Lib.hid (end_any HF.out)
      unfold putB at HE
      go_wp2
      exact bodyPost_ret (v := .agg #[.int .i64 bb.season, .int .i64 bb.supply, .int .i64 bb.burnt, .int .i64 bb.pot, .slice ss.fa bb.folk.length ss.fc, .slice ss.ma bb.mills.length ss.mc, .slice ss.pa bb.parts.length ss.pc, .slice ss.wa bb.waits.length ss.wc]) (by simp [results, Tryz.results18, go_sem, r0, r1, r2, r3, r4, r5, r6, r7]) rfl HE.out
    · replace HF := Lib.hid (HF.out.setSeason 1001)
      obtain ⟨V, hV⟩ : ∃ V, w7.setCell ⟨X, 0, none⟩ (.int .i64 1001) = V := ⟨_, rfl⟩
      rw [hV] at HF
      obtain ⟨bb, HB⟩ : ∃ y, Hid (b.wSeason 1001 = y) := ⟨_, Lib.hid rfl⟩
      obtain ⟨ss, HS⟩ : ∃ y, Hid (s = y) := ⟨_, Lib.hid rfl⟩
      rw [HB.out, HS.out] at HF
      have xq := HF.out.x.lt
      have r0 := HF.out.r.has 0 _ rfl
      have r1 := HF.out.r.has 1 _ rfl
      have r2 := HF.out.r.has 2 _ rfl
      have r3 := HF.out.r.has 3 _ rfl
      have r4 := HF.out.r.has 4 _ rfl
      have r5 := HF.out.r.has 5 _ rfl
      have r6 := HF.out.r.has 6 _ rfl
      have r7 := HF.out.r.has 7 _ rfl
      have rf := HF.out.r.free
      have x0 := HF.out.x.has 0 _ rfl
      have x1 := HF.out.x.has 1 _ rfl
      have x2 := HF.out.x.has 2 _ rfl
      have x3 := HF.out.x.has 3 _ rfl
      have x4 := HF.out.x.has 4 _ rfl
      have x5 := HF.out.x.has 5 _ rfl
      have x6 := HF.out.x.has 6 _ rfl
      have x7 := HF.out.x.has 7 _ rfl
      have HE := Lib.hid (end_any HF.out)
      unfold putB at HE
      go_wp2
      exact bodyPost_ret (v := .agg #[.int .i64 bb.season, .int .i64 bb.supply, .int .i64 bb.burnt, .int .i64 bb.pot, .slice ss.fa bb.folk.length ss.fc, .slice ss.ma bb.mills.length ss.mc, .slice ss.pa bb.parts.length ss.pc, .slice ss.wa bb.waits.length ss.wc]) (by simp [results, Tryz.results18, go_sem, r0, r1, r2, r3, r4, r5, r6, r7]) rfl HE.out
  · have hwr : IntKind.i64.wrap (b.supply + 1) = b.supply + 1 := IntWalk.i64_in _ (by have := HBD.out; omega)
    have x1 := HF.out.x.has 1 _ rfl
    have xf := HF.out.x.free
    replace HF := Lib.hid (HF.out.setSupply (b.supply + 1))
    obtain ⟨V, hV⟩ : ∃ V, w6.setCell ⟨X, 1, none⟩ (.int .i64 (b.supply + 1)) = V := ⟨_, rfl⟩
    rw [hV] at HF
    obtain ⟨bb, HB⟩ : ∃ y, Hid (b.wSupply (b.supply + 1) = y) := ⟨_, Lib.hid rfl⟩
    obtain ⟨ss, HS⟩ : ∃ y, Hid (s = y) := ⟨_, Lib.hid rfl⟩
    rw [HB.out, HS.out] at HF
    have r0 := HF.out.r.has 0 _ rfl
    have r1 := HF.out.r.has 1 _ rfl
    have r2 := HF.out.r.has 2 _ rfl
    have r3 := HF.out.r.has 3 _ rfl
    have r4 := HF.out.r.has 4 _ rfl
    have r5 := HF.out.r.has 5 _ rfl
    have r6 := HF.out.r.has 6 _ rfl
    have r7 := HF.out.r.has 7 _ rfl
    have rf := HF.out.r.free
    have x0 := HF.out.x.has 0 _ rfl
    have x1 := HF.out.x.has 1 _ rfl
    have x2 := HF.out.x.has 2 _ rfl
    have x3 := HF.out.x.has 3 _ rfl
    have x4 := HF.out.x.has 4 _ rfl
    have x5 := HF.out.x.has 5 _ rfl
    have x6 := HF.out.x.has 6 _ rfl
    have x7 := HF.out.x.has 7 _ rfl
    have HE := Lib.hid (end_any HF.out)
    unfold putB at HE
    go_wp2
    exact bodyPost_ret (v := .agg #[.int .i64 bb.season, .int .i64 bb.supply, .int .i64 bb.burnt, .int .i64 bb.pot, .slice ss.fa bb.folk.length ss.fc, .slice ss.ma bb.mills.length ss.mc, .slice ss.pa bb.parts.length ss.pc, .slice ss.wa bb.waits.length ss.wc]) (by simp [results, Tryz.results18, go_sem, r0, r1, r2, r3, r4, r5, r6, r7]) rfl HE.out
  · go_wp2_with fail
    refine (l1DrawAmount_any HF.out.way.cur).mono ?_
    rintro e w7 ⟨n, -, rfl, hc, hg⟩
    have x3 := (HF.out.draw hc hg).x.has 3 _ rfl
    have xf := (HF.out.draw hc hg).x.free
    replace HF := Lib.hid ((HF.out.draw hc hg).setPot n)
    obtain ⟨V, hV⟩ : ∃ V, w7.setCell ⟨X, 3, none⟩ (.int .i64 n) = V := ⟨_, rfl⟩
    rw [hV] at HF
    obtain ⟨bb, HB⟩ : ∃ y, Hid (b.wPot n = y) := ⟨_, Lib.hid rfl⟩
    obtain ⟨ss, HS⟩ : ∃ y, Hid (s = y) := ⟨_, Lib.hid rfl⟩
    rw [HB.out, HS.out] at HF
    have r0 := HF.out.r.has 0 _ rfl
    have r1 := HF.out.r.has 1 _ rfl
    have r2 := HF.out.r.has 2 _ rfl
    have r3 := HF.out.r.has 3 _ rfl
    have r4 := HF.out.r.has 4 _ rfl
    have r5 := HF.out.r.has 5 _ rfl
    have r6 := HF.out.r.has 6 _ rfl
    have r7 := HF.out.r.has 7 _ rfl
    have rf := HF.out.r.free
    have x0 := HF.out.x.has 0 _ rfl
    have x1 := HF.out.x.has 1 _ rfl
    have x2 := HF.out.x.has 2 _ rfl
    have x3 := HF.out.x.has 3 _ rfl
    have x4 := HF.out.x.has 4 _ rfl
    have x5 := HF.out.x.has 5 _ rfl
    have x6 := HF.out.x.has 6 _ rfl
    have x7 := HF.out.x.has 7 _ rfl
    have HE := Lib.hid (end_any HF.out)
    unfold putB at HE
    go_wp2
    exact bodyPost_ret (v := .agg #[.int .i64 bb.season, .int .i64 bb.supply, .int .i64 bb.burnt, .int .i64 bb.pot, .slice ss.fa bb.folk.length ss.fc, .slice ss.ma bb.mills.length ss.mc, .slice ss.pa bb.parts.length ss.pc, .slice ss.wa bb.waits.length ss.wc]) (by simp [results, Tryz.results18, go_sem, r0, r1, r2, r3, r4, r5, r6, r7]) rfl HE.out
  · go_wp2_with fail
    refine (l3DrawAny_any HF.out.way.cur).mono ?_
    rintro e w7 ⟨g, cg, l, rfl, hO⟩
    have HP : OwnP w7 w6.heap.size (some ⟨g, 0, none⟩) l := ownD_own hO
    have x4 := (HF.out.draw hO.cur hO.grown).x.has 4 _ rfl
    have xf := (HF.out.draw hO.cur hO.grown).x.free
    replace HF := Lib.hid (HF.out.setFolk hO.cur hO.grown (by have := hO.few; omega) (Sized.of (n := 7) (fun s hs => by obtain ⟨p, hp, rfl⟩ := List.mem_map.1 hs; exact hO.short p hp) (by unfold maxLen; omega)) HP (own_some hO.own).2.1 hO.lo.1)
    obtain ⟨V, hV⟩ : ∃ V, w7.setCell ⟨X, 4, none⟩ (.slice (some ⟨g, 0, none⟩) l.length cg) = V := ⟨_, rfl⟩
    rw [hV] at HF
    obtain ⟨bb, HB⟩ : ∃ y, Hid (b.wFolk l = y) := ⟨_, Lib.hid rfl⟩
    obtain ⟨ss, HS⟩ : ∃ y, Hid (s.wF (some ⟨g, 0, none⟩) cg = y) := ⟨_, Lib.hid rfl⟩
    rw [HB.out, HS.out] at HF
    have r0 := HF.out.r.has 0 _ rfl
    have r1 := HF.out.r.has 1 _ rfl
    have r2 := HF.out.r.has 2 _ rfl
    have r3 := HF.out.r.has 3 _ rfl
    have r4 := HF.out.r.has 4 _ rfl
    have r5 := HF.out.r.has 5 _ rfl
    have r6 := HF.out.r.has 6 _ rfl
    have r7 := HF.out.r.has 7 _ rfl
    have rf := HF.out.r.free
    have x0 := HF.out.x.has 0 _ rfl
    have x1 := HF.out.x.has 1 _ rfl
    have x2 := HF.out.x.has 2 _ rfl
    have x3 := HF.out.x.has 3 _ rfl
    have x4 := HF.out.x.has 4 _ rfl
    have x5 := HF.out.x.has 5 _ rfl
    have x6 := HF.out.x.has 6 _ rfl
    have x7 := HF.out.x.has 7 _ rfl
    have HE := Lib.hid (end_any HF.out)
    unfold putB at HE
    go_wp2
    exact bodyPost_ret (v := .agg #[.int .i64 bb.season, .int .i64 bb.supply, .int .i64 bb.burnt, .int .i64 bb.pot, .slice ss.fa bb.folk.length ss.fc, .slice ss.ma bb.mills.length ss.mc, .slice ss.pa bb.parts.length ss.pc, .slice ss.wa bb.waits.length ss.wc]) (by simp [results, Tryz.results18, go_sem, r0, r1, r2, r3, r4, r5, r6, r7]) rfl HE.out
  · go_wp2_with fail
    refine (l4DrawList_any HF.out.way.cur).mono ?_
    rintro e w7 ⟨g, cg, l, rfl, hl, hO⟩
    obtain ⟨HP, -⟩ := ownG_own Mil.len hO
    have x5 := (HF.out.draw hO.cur hO.grown).x.has 5 _ rfl
    have xf := (HF.out.draw hO.cur hO.grown).x.free
    replace HF := Lib.hid (HF.out.setMills hO.cur hO.grown (by omega) (Sized.of (n := maxLen) (fun s hs => by obtain ⟨p, hp, rfl⟩ := List.mem_map.1 hs; exact seven_max (hO.all p hp).1) (Nat.le_refl _)) HP (own_some hO.own).2.1 hO.lo.1)
    obtain ⟨V, hV⟩ : ∃ V, w7.setCell ⟨X, 5, none⟩ (.slice (some ⟨g, 0, none⟩) l.length cg) = V := ⟨_, rfl⟩
    rw [hV] at HF
    obtain ⟨bb, HB⟩ : ∃ y, Hid (b.wMills l = y) := ⟨_, Lib.hid rfl⟩
    obtain ⟨ss, HS⟩ : ∃ y, Hid (s.wM (some ⟨g, 0, none⟩) cg = y) := ⟨_, Lib.hid rfl⟩
    rw [HB.out, HS.out] at HF
    have r0 := HF.out.r.has 0 _ rfl
    have r1 := HF.out.r.has 1 _ rfl
    have r2 := HF.out.r.has 2 _ rfl
    have r3 := HF.out.r.has 3 _ rfl
    have r4 := HF.out.r.has 4 _ rfl
    have r5 := HF.out.r.has 5 _ rfl
    have r6 := HF.out.r.has 6 _ rfl
    have r7 := HF.out.r.has 7 _ rfl
    have rf := HF.out.r.free
    have x0 := HF.out.x.has 0 _ rfl
    have x1 := HF.out.x.has 1 _ rfl
    have x2 := HF.out.x.has 2 _ rfl
    have x3 := HF.out.x.has 3 _ rfl
    have x4 := HF.out.x.has 4 _ rfl
    have x5 := HF.out.x.has 5 _ rfl
    have x6 := HF.out.x.has 6 _ rfl
    have x7 := HF.out.x.has 7 _ rfl
    have HE := Lib.hid (end_any HF.out)
    unfold putB at HE
    go_wp2
    exact bodyPost_ret (v := .agg #[.int .i64 bb.season, .int .i64 bb.supply, .int .i64 bb.burnt, .int .i64 bb.pot, .slice ss.fa bb.folk.length ss.fc, .slice ss.ma bb.mills.length ss.mc, .slice ss.pa bb.parts.length ss.pc, .slice ss.wa bb.waits.length ss.wc]) (by simp [results, Tryz.results18, go_sem, r0, r1, r2, r3, r4, r5, r6, r7]) rfl HE.out
  · go_wp2_with fail
    refine (l5Draw_any HF.out.way.cur).mono ?_
    rintro e w7 ⟨g, cg, l, rfl, hl, hO⟩
    obtain ⟨HP, -⟩ := ownG_own Par.len hO
    have x6 := (HF.out.draw hO.cur hO.grown).x.has 6 _ rfl
    have xf := (HF.out.draw hO.cur hO.grown).x.free
    replace HF := Lib.hid (HF.out.setParts hO.cur hO.grown (by omega) (short_sized hO.all) HP (own_some hO.own).2.1 hO.lo.1)
    obtain ⟨V, hV⟩ : ∃ V, w7.setCell ⟨X, 6, none⟩ (.slice (some ⟨g, 0, none⟩) l.length cg) = V := ⟨_, rfl⟩
    rw [hV] at HF
    obtain ⟨bb, HB⟩ : ∃ y, Hid (b.wParts l = y) := ⟨_, Lib.hid rfl⟩
    obtain ⟨ss, HS⟩ : ∃ y, Hid (s.wP (some ⟨g, 0, none⟩) cg = y) := ⟨_, Lib.hid rfl⟩
    rw [HB.out, HS.out] at HF
    have r0 := HF.out.r.has 0 _ rfl
    have r1 := HF.out.r.has 1 _ rfl
    have r2 := HF.out.r.has 2 _ rfl
    have r3 := HF.out.r.has 3 _ rfl
    have r4 := HF.out.r.has 4 _ rfl
    have r5 := HF.out.r.has 5 _ rfl
    have r6 := HF.out.r.has 6 _ rfl
    have r7 := HF.out.r.has 7 _ rfl
    have rf := HF.out.r.free
    have x0 := HF.out.x.has 0 _ rfl
    have x1 := HF.out.x.has 1 _ rfl
    have x2 := HF.out.x.has 2 _ rfl
    have x3 := HF.out.x.has 3 _ rfl
    have x4 := HF.out.x.has 4 _ rfl
    have x5 := HF.out.x.has 5 _ rfl
    have x6 := HF.out.x.has 6 _ rfl
    have x7 := HF.out.x.has 7 _ rfl
    have HE := Lib.hid (end_any HF.out)
    unfold putB at HE
    go_wp2
    exact bodyPost_ret (v := .agg #[.int .i64 bb.season, .int .i64 bb.supply, .int .i64 bb.burnt, .int .i64 bb.pot, .slice ss.fa bb.folk.length ss.fc, .slice ss.ma bb.mills.length ss.mc, .slice ss.pa bb.parts.length ss.pc, .slice ss.wa bb.waits.length ss.wc]) (by simp [results, Tryz.results18, go_sem, r0, r1, r2, r3, r4, r5, r6, r7]) rfl HE.out
  · go_wp2_with fail
    refine (l6DrawList_any HF.out.way.cur).mono ?_
    rintro e w7 ⟨g, cg, l, rfl, hl, hO⟩
    obtain ⟨HP, -⟩ := ownG_own Wai.len hO
    have x7 := (HF.out.draw hO.cur hO.grown).x.has 7 _ rfl
    have xf := (HF.out.draw hO.cur hO.grown).x.free
    replace HF := Lib.hid (HF.out.setWaits hO.cur hO.grown (by omega) (wshort_sized hO.all) HP (own_some hO.own).2.1 hO.lo.1)
    obtain ⟨V, hV⟩ : ∃ V, w7.setCell ⟨X, 7, none⟩ (.slice (some ⟨g, 0, none⟩) l.length cg) = V := ⟨_, rfl⟩
    rw [hV] at HF
    obtain ⟨bb, HB⟩ : ∃ y, Hid (b.wWaits l = y) := ⟨_, Lib.hid rfl⟩
    obtain ⟨ss, HS⟩ : ∃ y, Hid (s.wW (some ⟨g, 0, none⟩) cg = y) := ⟨_, Lib.hid rfl⟩
    rw [HB.out, HS.out] at HF
    have r0 := HF.out.r.has 0 _ rfl
    have r1 := HF.out.r.has 1 _ rfl
    have r2 := HF.out.r.has 2 _ rfl
    have r3 := HF.out.r.has 3 _ rfl
    have r4 := HF.out.r.has 4 _ rfl
    have r5 := HF.out.r.has 5 _ rfl
    have r6 := HF.out.r.has 6 _ rfl
    have r7 := HF.out.r.has 7 _ rfl
    have rf := HF.out.r.free
    have x0 := HF.out.x.has 0 _ rfl
    have x1 := HF.out.x.has 1 _ rfl
    have x2 := HF.out.x.has 2 _ rfl
    have x3 := HF.out.x.has 3 _ rfl
    have x4 := HF.out.x.has 4 _ rfl
    have x5 := HF.out.x.has 5 _ rfl
    have x6 := HF.out.x.has 6 _ rfl
    have x7 := HF.out.x.has 7 _ rfl
    have HE := Lib.hid (end_any HF.out)
    unfold putB at HE
    go_wp2
    exact bodyPost_ret (v := .agg #[.int .i64 bb.season, .int .i64 bb.supply, .int .i64 bb.burnt, .int .i64 bb.pot, .slice ss.fa bb.folk.length ss.fc, .slice ss.ma bb.mills.length ss.mc, .slice ss.pa bb.parts.length ss.pc, .slice ss.wa bb.waits.length ss.wc]) (by simp [results, Tryz.results18, go_sem, r0, r1, r2, r3, r4, r5, r6, r7]) rfl HE.out
end Go.Proofs.YtlnnchgaloejlaaGreat
