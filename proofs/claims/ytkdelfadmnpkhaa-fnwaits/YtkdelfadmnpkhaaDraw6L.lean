/-
  What the draws of chapter 6 return, whatever the bytes: one that waits, or at most 21 of them, of short names; nothing that was there turns, but for the cursor.
-/
import Derived.Test.YtkdelfadmnpkhaaDraw6
import Derived.Test.YtkdelfadmnpkhaaDraw
namespace Go.Proofs.Ytkdelfadmnpkhaa
open Go.ChangeShapes Go.WideShapes Go.ChangeAt Go.RowKit

/-- The answer's block takes it. -/
theorem end_waitB {w wk : World} {C : Nat} {a : Option Addr} {len cap R M : Nat} {q : Wai} (h : Box w C a len cap R M 4 q.cs wk) (hC : C < w.heap.size) (ha : ∀ b off, a = some ⟨b, off, none⟩ → 0 < len → b < w.heap.size) (hq : WShort q) :
    DrawnW C a len cap w (.returned (.agg #[.string q.who, .string q.mill, .int .i64 q.amount, .int .i64 q.ripe]))
      ((((wk.setCell ⟨R, 0, none⟩ (.string q.who)).setCell ⟨R, 1, none⟩ (.string q.mill)).setCell ⟨R, 2, none⟩ (.int .i64 q.amount)).setCell ⟨R, 3, none⟩ (.int .i64 q.ripe)) := by
  obtain ⟨c1, g1⟩ := cur_set h.cur h.grown hC ha h.rlo (o := 0) (.string q.who)
  obtain ⟨c2, g2⟩ := cur_set c1 g1 hC ha h.rlo (o := 1) (.string q.mill)
  obtain ⟨c3, g3⟩ := cur_set c2 g2 hC ha h.rlo (o := 2) (.int .i64 q.amount)
  obtain ⟨c4, g4⟩ := cur_set c3 g3 hC ha h.rlo (o := 3) (.int .i64 q.ripe)
  exact ⟨q, hq, rfl, c4, g4⟩

set_option maxHeartbeats 4000000 in
set_option maxRecDepth 100000 in
theorem l6DrawAny_any {C : Nat} {a : Option Addr} {len cap : Nat} {w : World} (h : Cur w C a len cap) :
    Calls Try.prog 38 #[.pointer (some ⟨C, 0, none⟩)] w (DrawnW C a len cap w) := by
  have hC : C < w.heap.size := lt_of_cell h.c0
  have HO := Lib.hid h.old
  have HC := Lib.hid h
  clear h
  go_enter Try.func38, Try.ntmps38
  go_wp2_with fail
  refine (l6Draw_any (HC.out.kept (below_new _ _))).mono ?_
  rintro e w2 ⟨m, hm, rfl, hc2, hg2⟩
  have hR := (mine_lies (lies_new w [.string ByteArray.empty, .string ByteArray.empty, .int .i64 0, .int .i64 0] 26) rfl (free_new _ _ _)).grown (by simp) hg2 (by intro e; injection e with e; omega)
  have hle : w.heap.size < w2.heap.size := by have := hg2.size; simp at this; omega
  have HX := Lib.hid (Box.new (c := 4) hR (Nat.le_refl _) hle hc2 (grown_step (grown_new (grown_refl w (some C)) _) hg2) m.cs 26)
  obtain ⟨hm1, hm2⟩ := hm
  have HM1 := Lib.hid hm1
  have HM2 := Lib.hid hm2
  clear hg2 hc2 HC hR hm1 hm2
  go_wp2_with fail
  refine (l1Once_any _ HX.out.cur (by omega) (by omega)).mono ?_
  rintro e w3 ⟨u, rfl, hc3, hg3⟩
  have HX3 := Lib.hid (HX.out.draw hC hc3 hg3)
  clear hc3 hg3 HX
  cases u
  · have b0 := HX3.out.is 0 _ rfl
    have b1 := HX3.out.is 1 _ rfl
    have b2 := HX3.out.is 2 _ rfl
    have b3 := HX3.out.is 3 _ rfl
    obtain ⟨r0, q0⟩ := HX3.out.room.all 0 (by omega)
    obtain ⟨r1, q1⟩ := HX3.out.room.all 1 (by omega)
    obtain ⟨r2, q2⟩ := HX3.out.room.all 2 (by omega)
    obtain ⟨r3, q3⟩ := HX3.out.room.all 3 (by omega)
    simp only [Nat.zero_add] at q0 q1 q2 q3
    have n0 := HX3.out.room.free 0
    have n1 := HX3.out.room.free 1
    have n2 := HX3.out.room.free 2
    have n3 := HX3.out.room.free 3
    have HD := Lib.hid (end_waitB (q := ⟨m.who, m.mill, m.amount, m.ripe⟩) HX3.out hC HO.out ⟨HM1.out, HM2.out⟩)
    go_wp2
    exact bodyPost_ret (v := .agg #[.string m.who, .string m.mill, .int .i64 m.amount, .int .i64 m.ripe]) (by simp [results, Try.results38, go_sem, q0, q1, q2, q3]) rfl HD.out
  · go_wp2_with fail
    refine (l1Below_any _ HX3.out.cur (by omega) (by omega)).mono ?_
    rintro e w4 ⟨y, ⟨hy, hy2⟩, rfl, hc4, hg4⟩
    have HX4 := Lib.hid (HX3.out.draw hC hc4 hg4)
    clear hc4 hg4 HX3
    have hy3 : y = 0 ∨ y = 1 ∨ y = 2 ∨ y = 3 := by omega
    rcases hy3 with rfl | rfl | rfl | rfl
    · go_wp2_with fail
      refine (l2DrawAny_any HX4.out.cur).mono ?_
      rintro e w5 ⟨s5, hs5, rfl, hc5, hg5⟩
      have hx5 := HX4.out.draw hC hc5 hg5
      have HS5 := Lib.hid hs5
      clear hs5
      have b0 := hx5.is 0 _ rfl
      have b1 := hx5.is 1 _ rfl
      have b2 := hx5.is 2 _ rfl
      have b3 := hx5.is 3 _ rfl
      obtain ⟨r0, q0⟩ := hx5.room.all 0 (by omega)
      obtain ⟨r1, q1⟩ := hx5.room.all 1 (by omega)
      obtain ⟨r2, q2⟩ := hx5.room.all 2 (by omega)
      obtain ⟨r3, q3⟩ := hx5.room.all 3 (by omega)
      simp only [Nat.zero_add] at q0 q1 q2 q3
      have n0 := hx5.room.free 0
      have n1 := hx5.room.free 1
      have n2 := hx5.room.free 2
      have n3 := hx5.room.free 3
      have g0 := hx5.fm 0
      have HX6 := Lib.hid (hx5.set hC HO.out 0 (.string s5))
      have HD := Lib.hid (end_waitB (q := ⟨s5, m.mill, m.amount, m.ripe⟩) HX6.out hC HO.out ⟨HS5.out, HM2.out⟩)
      clear hx5 hc5 hg5 HX4 HX6
      go_wp2
      exact bodyPost_ret (v := .agg #[.string s5, .string m.mill, .int .i64 m.amount, .int .i64 m.ripe]) (by simp [results, Try.results38, go_sem, q0, q1, q2, q3]) rfl HD.out
    · go_wp2_with fail
      refine (l2DrawAny_any HX4.out.cur).mono ?_
      rintro e w5 ⟨s5, hs5, rfl, hc5, hg5⟩
      have hx5 := HX4.out.draw hC hc5 hg5
      have HS5 := Lib.hid hs5
      clear hs5
      have b0 := hx5.is 0 _ rfl
      have b1 := hx5.is 1 _ rfl
      have b2 := hx5.is 2 _ rfl
      have b3 := hx5.is 3 _ rfl
      obtain ⟨r0, q0⟩ := hx5.room.all 0 (by omega)
      obtain ⟨r1, q1⟩ := hx5.room.all 1 (by omega)
      obtain ⟨r2, q2⟩ := hx5.room.all 2 (by omega)
      obtain ⟨r3, q3⟩ := hx5.room.all 3 (by omega)
      simp only [Nat.zero_add] at q0 q1 q2 q3
      have n0 := hx5.room.free 0
      have n1 := hx5.room.free 1
      have n2 := hx5.room.free 2
      have n3 := hx5.room.free 3
      have g0 := hx5.fm 1
      have HX6 := Lib.hid (hx5.set hC HO.out 1 (.string s5))
      have HD := Lib.hid (end_waitB (q := ⟨m.who, s5, m.amount, m.ripe⟩) HX6.out hC HO.out ⟨HM1.out, HS5.out⟩)
      clear hx5 hc5 hg5 HX4 HX6
      go_wp2
      exact bodyPost_ret (v := .agg #[.string m.who, .string s5, .int .i64 m.amount, .int .i64 m.ripe]) (by simp [results, Try.results38, go_sem, q0, q1, q2, q3]) rfl HD.out
    · go_wp2_with fail
      refine (l1Below_any _ (HX4.out.cur.kept (below_new _ _)) (by omega) (by omega)).mono ?_
      rintro e w5 ⟨z, ⟨hz, hz2⟩, rfl, hc5, hg5⟩
      have HX5 := Lib.hid ((HX4.out.below (below_new _ _)).draw hC hc5 hg5)
      have hCk : C < w4.heap.size := Nat.lt_of_lt_of_le hC HX4.out.grown.size
      have p0 := kept_cell (b := w4.heap.size) (o := 0) hg5 (by go_simp; rfl) (by omega)
      have p1 := kept_cell (b := w4.heap.size) (o := 1) hg5 (by go_simp; rfl) (by omega)
      have p2 := kept_cell (b := w4.heap.size) (o := 2) hg5 (by go_simp; rfl) (by omega)
      clear hc5 hg5 HX4
      have hz3 : z = 0 ∨ z = 1 ∨ z = 2 := by omega
      rcases hz3 with rfl | rfl | rfl
      · have b0 := HX5.out.is 0 _ rfl
        have b1 := HX5.out.is 1 _ rfl
        have b2 := HX5.out.is 2 _ rfl
        have b3 := HX5.out.is 3 _ rfl
        obtain ⟨r0, q0⟩ := HX5.out.room.all 0 (by omega)
        obtain ⟨r1, q1⟩ := HX5.out.room.all 1 (by omega)
        obtain ⟨r2, q2⟩ := HX5.out.room.all 2 (by omega)
        obtain ⟨r3, q3⟩ := HX5.out.room.all 3 (by omega)
        simp only [Nat.zero_add] at q0 q1 q2 q3
        have n0 := HX5.out.room.free 0
        have n1 := HX5.out.room.free 1
        have n2 := HX5.out.room.free 2
        have n3 := HX5.out.room.free 3
        have g0 := HX5.out.fm 2
        have HX6 := Lib.hid (HX5.out.set hC HO.out 2 (.int .i64 0))
        have HD := Lib.hid (end_waitB (q := ⟨m.who, m.mill, 0, m.ripe⟩) HX6.out hC HO.out ⟨HM1.out, HM2.out⟩)
        clear HX5 HX6
        go_wp2
        exact bodyPost_ret (v := .agg #[.string m.who, .string m.mill, .int .i64 0, .int .i64 m.ripe]) (by simp [results, Try.results38, go_sem, q0, q1, q2, q3]) rfl HD.out
      · have b0 := HX5.out.is 0 _ rfl
        have b1 := HX5.out.is 1 _ rfl
        have b2 := HX5.out.is 2 _ rfl
        have b3 := HX5.out.is 3 _ rfl
        obtain ⟨r0, q0⟩ := HX5.out.room.all 0 (by omega)
        obtain ⟨r1, q1⟩ := HX5.out.room.all 1 (by omega)
        obtain ⟨r2, q2⟩ := HX5.out.room.all 2 (by omega)
        obtain ⟨r3, q3⟩ := HX5.out.room.all 3 (by omega)
        simp only [Nat.zero_add] at q0 q1 q2 q3
        have n0 := HX5.out.room.free 0
        have n1 := HX5.out.room.free 1
        have n2 := HX5.out.room.free 2
        have n3 := HX5.out.room.free 3
        have g0 := HX5.out.fm 2
        have HX6 := Lib.hid (HX5.out.set hC HO.out 2 (.int .i64 1000000))
        have HD := Lib.hid (end_waitB (q := ⟨m.who, m.mill, 1000000, m.ripe⟩) HX6.out hC HO.out ⟨HM1.out, HM2.out⟩)
        clear HX5 HX6
        go_wp2
        exact bodyPost_ret (v := .agg #[.string m.who, .string m.mill, .int .i64 1000000, .int .i64 m.ripe]) (by simp [results, Try.results38, go_sem, q0, q1, q2, q3]) rfl HD.out
      · have b0 := HX5.out.is 0 _ rfl
        have b1 := HX5.out.is 1 _ rfl
        have b2 := HX5.out.is 2 _ rfl
        have b3 := HX5.out.is 3 _ rfl
        obtain ⟨r0, q0⟩ := HX5.out.room.all 0 (by omega)
        obtain ⟨r1, q1⟩ := HX5.out.room.all 1 (by omega)
        obtain ⟨r2, q2⟩ := HX5.out.room.all 2 (by omega)
        obtain ⟨r3, q3⟩ := HX5.out.room.all 3 (by omega)
        simp only [Nat.zero_add] at q0 q1 q2 q3
        have n0 := HX5.out.room.free 0
        have n1 := HX5.out.room.free 1
        have n2 := HX5.out.room.free 2
        have n3 := HX5.out.room.free 3
        have g0 := HX5.out.fm 2
        have HX6 := Lib.hid (HX5.out.set hC HO.out 2 (.int .i64 1000001))
        have HD := Lib.hid (end_waitB (q := ⟨m.who, m.mill, 1000001, m.ripe⟩) HX6.out hC HO.out ⟨HM1.out, HM2.out⟩)
        clear HX5 HX6
        go_wp2
        exact bodyPost_ret (v := .agg #[.string m.who, .string m.mill, .int .i64 1000001, .int .i64 m.ripe]) (by simp [results, Try.results38, go_sem, q0, q1, q2, q3]) rfl HD.out
    · go_wp2_with fail
      refine (l1Below_any _ (HX4.out.cur.kept (below_new _ _)) (by omega) (by omega)).mono ?_
      rintro e w5 ⟨z, ⟨hz, hz2⟩, rfl, hc5, hg5⟩
      have HX5 := Lib.hid ((HX4.out.below (below_new _ _)).draw hC hc5 hg5)
      have hCk : C < w4.heap.size := Nat.lt_of_lt_of_le hC HX4.out.grown.size
      have p0 := kept_cell (b := w4.heap.size) (o := 0) hg5 (by go_simp; rfl) (by omega)
      have p1 := kept_cell (b := w4.heap.size) (o := 1) hg5 (by go_simp; rfl) (by omega)
      have p2 := kept_cell (b := w4.heap.size) (o := 2) hg5 (by go_simp; rfl) (by omega)
      clear hc5 hg5 HX4
      have hz3 : z = 0 ∨ z = 1 ∨ z = 2 := by omega
      rcases hz3 with rfl | rfl | rfl
      · have b0 := HX5.out.is 0 _ rfl
        have b1 := HX5.out.is 1 _ rfl
        have b2 := HX5.out.is 2 _ rfl
        have b3 := HX5.out.is 3 _ rfl
        obtain ⟨r0, q0⟩ := HX5.out.room.all 0 (by omega)
        obtain ⟨r1, q1⟩ := HX5.out.room.all 1 (by omega)
        obtain ⟨r2, q2⟩ := HX5.out.room.all 2 (by omega)
        obtain ⟨r3, q3⟩ := HX5.out.room.all 3 (by omega)
        simp only [Nat.zero_add] at q0 q1 q2 q3
        have n0 := HX5.out.room.free 0
        have n1 := HX5.out.room.free 1
        have n2 := HX5.out.room.free 2
        have n3 := HX5.out.room.free 3
        have g0 := HX5.out.fm 3
        have HX6 := Lib.hid (HX5.out.set hC HO.out 3 (.int .i64 (-1)))
        have HD := Lib.hid (end_waitB (q := ⟨m.who, m.mill, m.amount, (-1)⟩) HX6.out hC HO.out ⟨HM1.out, HM2.out⟩)
        clear HX5 HX6
        go_wp2
        exact bodyPost_ret (v := .agg #[.string m.who, .string m.mill, .int .i64 m.amount, .int .i64 (-1)]) (by simp [results, Try.results38, go_sem, q0, q1, q2, q3]) rfl HD.out
      · have b0 := HX5.out.is 0 _ rfl
        have b1 := HX5.out.is 1 _ rfl
        have b2 := HX5.out.is 2 _ rfl
        have b3 := HX5.out.is 3 _ rfl
        obtain ⟨r0, q0⟩ := HX5.out.room.all 0 (by omega)
        obtain ⟨r1, q1⟩ := HX5.out.room.all 1 (by omega)
        obtain ⟨r2, q2⟩ := HX5.out.room.all 2 (by omega)
        obtain ⟨r3, q3⟩ := HX5.out.room.all 3 (by omega)
        simp only [Nat.zero_add] at q0 q1 q2 q3
        have n0 := HX5.out.room.free 0
        have n1 := HX5.out.room.free 1
        have n2 := HX5.out.room.free 2
        have n3 := HX5.out.room.free 3
        have g0 := HX5.out.fm 3
        have HX6 := Lib.hid (HX5.out.set hC HO.out 3 (.int .i64 1000))
        have HD := Lib.hid (end_waitB (q := ⟨m.who, m.mill, m.amount, 1000⟩) HX6.out hC HO.out ⟨HM1.out, HM2.out⟩)
        clear HX5 HX6
        go_wp2
        exact bodyPost_ret (v := .agg #[.string m.who, .string m.mill, .int .i64 m.amount, .int .i64 1000]) (by simp [results, Try.results38, go_sem, q0, q1, q2, q3]) rfl HD.out
      · have b0 := HX5.out.is 0 _ rfl
        have b1 := HX5.out.is 1 _ rfl
        have b2 := HX5.out.is 2 _ rfl
        have b3 := HX5.out.is 3 _ rfl
        obtain ⟨r0, q0⟩ := HX5.out.room.all 0 (by omega)
        obtain ⟨r1, q1⟩ := HX5.out.room.all 1 (by omega)
        obtain ⟨r2, q2⟩ := HX5.out.room.all 2 (by omega)
        obtain ⟨r3, q3⟩ := HX5.out.room.all 3 (by omega)
        simp only [Nat.zero_add] at q0 q1 q2 q3
        have n0 := HX5.out.room.free 0
        have n1 := HX5.out.room.free 1
        have n2 := HX5.out.room.free 2
        have n3 := HX5.out.room.free 3
        have g0 := HX5.out.fm 3
        have HX6 := Lib.hid (HX5.out.set hC HO.out 3 (.int .i64 1001))
        have HD := Lib.hid (end_waitB (q := ⟨m.who, m.mill, m.amount, 1001⟩) HX6.out hC HO.out ⟨HM1.out, HM2.out⟩)
        clear HX5 HX6
        go_wp2
        exact bodyPost_ret (v := .agg #[.string m.who, .string m.mill, .int .i64 m.amount, .int .i64 1001]) (by simp [results, Try.results38, go_sem, q0, q1, q2, q3]) rfl HD.out

theorem waitingL_short {ps : List Wai} (h : ∀ p ∈ ps, WShort p) {q : Wai} (hq : WShort q) : ∀ p ∈ waitingL ps q, WShort p := by
  intro p hp
  unfold waitingL at hp
  split at hp
  · split at hp
    · unfold putW at hp
      simp only [List.mem_append, List.mem_singleton] at hp
      rcases hp with (hp | rfl) | hp
      · exact h p (List.mem_of_mem_take hp)
      · exact hq
      · exact h p (List.mem_of_mem_drop hp)
    · exact h p hp
  · simp at hp
theorem waitingL_more (ps : List Wai) (q : Wai) : (waitingL ps q).length ≤ ps.length + 1 := by
  unfold waitingL
  split
  · split
    · unfold putW; have := lowW_le ps q.ripe; simp; omega
    · omega
  · simp
theorem wshort_max {s : ByteArray} (h : s.size ≤ 7) : s.size ≤ maxLen := Nat.le_trans h (by unfold maxLen; omega)
theorem wshort_sized {ps : List Wai} (h : ∀ p ∈ ps, WShort p) : WSized ps :=
  wsized_mem.2 fun p hp => ⟨wshort_max (h p hp).1, wshort_max (h p hp).2⟩
/-- One more waits. -/
theorem drawnWaits {C : Nat} {a : Option Addr} {len cap : Nat} {w : World} {g cp : Nat} {xs : List Wai} {w4 : World} (h : OwnG Wai.cs 4 26 WShort C a len cap w g cp xs w4) (hx : xs.length ≤ 5) {q : Wai} (hq : WShort q) :
    Calls Try.prog 18 #[.slice (some ⟨g, 0, none⟩) xs.length cp, .agg #[.string q.who, .string q.mill, .int .i64 q.amount, .int .i64 q.ripe]] w4 fun e w5 => ∃ g' c' ys, e = .returned (.tuple #[.slice (some ⟨g', 0, none⟩) ys.length c', .bool (waitingB xs q)]) ∧ ys.length ≤ xs.length + 1 ∧ OwnG Wai.cs 4 26 WShort C a len cap w g' c' ys w5 := by
  refine (sWaiting_any cp q (h.lies Wai.len) (own_some h.own).2.1 (by omega) (wshort_sized h.all) ⟨wshort_max hq.1, wshort_max hq.2⟩).mono ?_
  rintro e w6 ⟨g6, c6, rfl, ho6, hb6⟩
  exact ⟨g6, c6, _, rfl, waitingL_more _ _, h.turn ho6 hb6 (waitingL_short h.all hq)⟩

/-- The list of a draw. -/
def DrawnWL (C : Nat) (a : Option Addr) (len cap : Nat) (w : World) (m : Nat) (e : Ending) (w' : World) : Prop :=
  ∃ g cp xs, e = .returned (.slice (some ⟨g, 0, none⟩) xs.length cp) ∧ xs.length ≤ m ∧ OwnG Wai.cs 4 26 WShort C a len cap w g cp xs w'
/-- Between the rounds. -/
def DrawRelW (C : Nat) (a : Option Addr) (len cap : Nat) (w : World) (v i : Value) (wr : World) : Prop :=
  ∃ g cp xs, ∃ k : Nat, v = .slice (some ⟨g, 0, none⟩) xs.length cp ∧ i = .int .i64 k ∧ xs.length + k ≤ 5 ∧ OwnG Wai.cs 4 26 WShort C a len cap w g cp xs wr
/-- Between the rounds of the second loop. -/
def FillRelW (C : Nat) (a : Option Addr) (len cap : Nat) (w : World) (v : Value) (wr : World) : Prop :=
  ∃ g cp xs, v = .slice (some ⟨g, 0, none⟩) xs.length cp ∧ xs.length ≤ 21 ∧ OwnG Wai.cs 4 26 WShort C a len cap w g cp xs wr
def lenV : Value → Nat
  | .slice _ n _ => n
  | _ => 0

set_option maxHeartbeats 4000000 in
set_option maxRecDepth 100000 in
theorem l6DrawList_any {C : Nat} {a : Option Addr} {len cap : Nat} {w : World} (h : Cur w C a len cap) :
    Calls Try.prog 37 #[.pointer (some ⟨C, 0, none⟩)] w (DrawnWL C a len cap w 21) := by
  have hC : C < w.heap.size := lt_of_cell h.c0
  have HA := Lib.hid h.old
  have HC0 := Lib.hid (h.kept (below_new w (.cells #[] 26)))
  clear h
  obtain ⟨i0, hi, hz0, hz1, hz2⟩ := info_parts info_Wait
  have HI := Lib.hid hi
  have HZ0 := Lib.hid hz0
  have HZ1 := Lib.hid hz1
  have HZ2 := Lib.hid hz2
  clear hi hz0 hz1 hz2
  go_enter Try.func37, Try.ntmps37
  go_wp2_with fail
  refine (l1Below_any _ HC0.out (by omega) (by omega)).mono ?_
  rintro e w1 ⟨x, ⟨hx, hx2⟩, rfl, hc1, hg1⟩
  obtain ⟨k, rfl⟩ : ∃ k : Nat, x = k := ⟨x.toNat, by omega⟩
  have HR0 : Hid (DrawRelW C a len cap w (.slice (some ⟨w.heap.size, 0, none⟩) 0 0) (.int .i64 k) w1) := by
    have ho := ownG_lit (f := Wai.cs) (c := 4) (T := 26) (Z := WShort) (w := w) Wai.len hC (grown_refl w _) [] (by simp) (by simp) hc1 (by simpa using hg1) 0 (Nat.le_refl _)
    exact ⟨w.heap.size, 0, [], k, rfl, rfl, by simp; omega, by simpa using ho⟩
  clear hc1 hg1
  go_wp2_with fail
  go_loopw [3, 4] (fun v i wr => DrawRelW C a len cap w v i wr) (fun _ i _ => (intOf i).toNat)
  case atStart => exact HR0.out
  case round =>
    clear HR0 hx hx2
    obtain ⟨g, cp, xs, i, rfl, rfl, hxl, hG⟩ := hrel
    have HG := Lib.hid hG
    clear hG
    by_cases hi0 : 0 < i
    · go_wp2_with fail
      refine (l6Draw_any HG.out.cur).mono ?_
      rintro e w3 ⟨q, hq, rfl, hc3, hg3⟩
      have HG3 := Lib.hid (HG.out.draw hC hc3 hg3)
      have HQ := Lib.hid hq
      clear hc3 hg3 hq HG
      go_wp2_with fail
      refine (drawnWaits HG3.out (by omega) HQ.out).mono ?_
      rintro e w4 ⟨g4, c4, ys, rfl, hys, hG4⟩
      have HG4 := Lib.hid hG4
      clear hG4 HG3
      go_wp2
      go_roundw
      case rel => exact ⟨g4, c4, ys, i - 1, rfl, by go_num, by omega, HG4.out⟩
      case measure => simp [intOf]; omega
    · obtain rfl : i = 0 := by omega
      go_wp2_with fail
      refine (l1Once_any _ HG.out.cur (by omega) (by omega)).mono ?_
      rintro e w3 ⟨t, rfl, hc3, hg3⟩
      have HG3 := Lib.hid (HG.out.draw hC hc3 hg3)
      clear hc3 hg3 HG
      cases t
      · go_wp2_with fail
        refine (l1Once_any _ HG3.out.cur (by omega) (by omega)).mono ?_
        rintro e w8 ⟨t, rfl, hc8, hg8⟩
        have HG8 := Lib.hid (HG3.out.draw hC hc8 hg8)
        clear hc8 hg8
        cases t
        · have HN := Lib.hid (show DrawnWL C a len cap w 21 (.returned (.slice (some ⟨g, 0, none⟩) xs.length cp)) w8 from ⟨g, cp, xs, rfl, by omega, HG8.out⟩)
          go_wp2
          go_ret
          exact HN.out
        · go_wp2_with fail
          go_loopw [3] (fun v wr => FillRelW C a len cap w v wr) (fun v _ => 21 - lenV v)
          case atStart => exact ⟨g, cp, xs, rfl, by omega, HG8.out⟩
          case round =>
            clear HG8
            obtain ⟨gz, cz, zs, rfl, hzl, hG⟩ := hrel
            have HGZ := Lib.hid hG
            clear hG
            go_wp2_with fail
            refine (l1Below_any _ HGZ.out.cur (by omega) (by omega)).mono ?_
            rintro e w9 ⟨x, ⟨hx, hx2⟩, rfl, hc9, hg9⟩
            have HG9 := Lib.hid (HGZ.out.draw hC hc9 hg9)
            clear hc9 hg9 HGZ
            have hwx : IntKind.i64.wrap (20 + x) = 20 + x := IntWalk.i64_in _ (by omega)
            by_cases hlt : (zs.length : Int) < 20 + x
            · have HL := Lib.hid (HG9.out.new (.cells #[.string ⟨#[97, 110, 110]⟩, .string ⟨#[109, 105, 97]⟩, .int .i64 1, .int .i64 9] 26))
              go_wp2_with (at_builtin; refine wpList_append_some rfl _ _ 24 rfl w.heap.size 26 i0 (.agg #[.string ByteArray.empty, .string ByteArray.empty, .int .i64 0, .int .i64 0]) 4 48 Try.underlying24 HI.out HZ0.out HZ1.out HZ2.out rfl (by decide) gz cz zs.length (zs.flatMap Wai.cs) rfl HL.out.own ⟨w9.heap.size, 0, none⟩ 1 1 (Wai.cs ⟨⟨#[97, 110, 110]⟩, ⟨#[109, 105, 97]⟩, 1, 9⟩) rfl rfl ?c1 (Wai.one _) ?c2 ?c3 ?_)
              case c1 =>
                intro j u hj
                rw [add_plain]
                have := RecAt.new Wai.cs w9 (⟨⟨#[97, 110, 110]⟩, ⟨#[109, 105, 97]⟩, 1, 9⟩ : Wai) 26 j u hj
                rw [Nat.zero_add]; exact this
              case c2 => unfold maxLen; omega
              case c3 => omega
              rintro g7 c7 w7 ⟨h7, h7g, h7b, h7l, h7x⟩
              have HNZ := Lib.hid (show OwnG Wai.cs 4 26 WShort C a len cap w g7 c7 (zs ++ [⟨⟨#[97, 110, 110]⟩, ⟨#[109, 105, 97]⟩, 1, 9⟩]) w7 from HL.out.more hC HA.out rfl rfl (by intro y hy; simp only [List.mem_singleton] at hy; subst hy; exact ⟨by decide, by decide⟩) HL.out.cur HL.out.grown cz (by simpa using h7) h7g)
              clear h7 h7g h7b h7l h7x
              go_wp2
              go_roundw
              case rel => exact ⟨g7, c7, _, by simp, by simp; omega, HNZ.out⟩
              case measure => simp [lenV]; omega
            · have HN := Lib.hid (show DrawnWL C a len cap w 21 (.returned (.slice (some ⟨gz, 0, none⟩) zs.length cz)) w9 from ⟨gz, cz, zs, rfl, hzl, HG9.out⟩)
              go_wp2
              go_ret
              exact HN.out
      · go_wp2_with fail
        refine (l6DrawAny_any HG3.out.cur).mono ?_
        rintro e w4 ⟨q, hq, rfl, hc4, hg4⟩
        have HG4 := Lib.hid (HG3.out.draw hC hc4 hg4)
        have HQ := Lib.hid hq
        clear hc4 hg4 hq HG3
        have HL := Lib.hid (HG4.out.new (.cells #[.string q.who, .string q.mill, .int .i64 q.amount, .int .i64 q.ripe] 26))
        go_wp2_with (at_builtin; refine wpList_append_some rfl _ _ 24 rfl w.heap.size 26 i0 (.agg #[.string ByteArray.empty, .string ByteArray.empty, .int .i64 0, .int .i64 0]) 4 48 Try.underlying24 HI.out HZ0.out HZ1.out HZ2.out rfl (by decide) g cp xs.length (xs.flatMap Wai.cs) rfl HL.out.own ⟨w4.heap.size, 0, none⟩ 1 1 (Wai.cs q) rfl rfl ?c1 (Wai.one _) ?c2 ?c3 ?_)
        case c1 =>
          intro j u hj
          rw [add_plain]
          have := RecAt.new Wai.cs w4 (q : Wai) 26 j u hj
          rw [Nat.zero_add]; exact this
        case c2 => unfold maxLen; omega
        case c3 => omega
        rintro g7 c7 w7 ⟨h7, h7g, h7b, h7l, h7x⟩
        have HG5 := Lib.hid (show OwnG Wai.cs 4 26 WShort C a len cap w g7 c7 (xs ++ [q]) w7 from HL.out.more hC HA.out rfl rfl (by intro y hy; simp only [List.mem_singleton] at hy; subst hy; exact HQ.out) HL.out.cur HL.out.grown cp (by simpa using h7) h7g)
        clear h7 h7g h7b h7l h7x
        obtain ⟨ys, HYS⟩ : ∃ ys, Hid (xs ++ [q] = ys) := ⟨_, Lib.hid rfl⟩
        have HG6 := HG5.out
        rw [HYS.out] at HG6
        have HGY := Lib.hid HG6
        have hyl : xs.length + 1 = ys.length := by rw [← HYS.out]; simp
        have hyl2 : ys.length ≤ 6 := by omega
        clear HG6 HG5 HYS HL HG4
        rw [hyl]
        clear hyl
        go_wp2_with fail
        refine (l1Once_any _ HGY.out.cur (by omega) (by omega)).mono ?_
        rintro e w8 ⟨t, rfl, hc8, hg8⟩
        have HG8 := Lib.hid (HGY.out.draw hC hc8 hg8)
        clear hc8 hg8
        cases t
        · have HN := Lib.hid (show DrawnWL C a len cap w 21 (.returned (.slice (some ⟨g7, 0, none⟩) ys.length c7)) w8 from ⟨g7, c7, ys, rfl, by omega, HG8.out⟩)
          go_wp2
          go_ret
          exact HN.out
        · go_wp2_with fail
          go_loopw [3] (fun v wr => FillRelW C a len cap w v wr) (fun v _ => 21 - lenV v)
          case atStart => exact ⟨g7, c7, ys, rfl, by omega, HG8.out⟩
          case round =>
            clear HG8
            obtain ⟨gz, cz, zs, rfl, hzl, hG⟩ := hrel
            have HGZ := Lib.hid hG
            clear hG
            go_wp2_with fail
            refine (l1Below_any _ HGZ.out.cur (by omega) (by omega)).mono ?_
            rintro e w9 ⟨x, ⟨hx, hx2⟩, rfl, hc9, hg9⟩
            have HG9 := Lib.hid (HGZ.out.draw hC hc9 hg9)
            clear hc9 hg9 HGZ
            have hwx : IntKind.i64.wrap (20 + x) = 20 + x := IntWalk.i64_in _ (by omega)
            by_cases hlt : (zs.length : Int) < 20 + x
            · have HL := Lib.hid (HG9.out.new (.cells #[.string ⟨#[97, 110, 110]⟩, .string ⟨#[109, 105, 97]⟩, .int .i64 1, .int .i64 9] 26))
              go_wp2_with (at_builtin; refine wpList_append_some rfl _ _ 24 rfl w.heap.size 26 i0 (.agg #[.string ByteArray.empty, .string ByteArray.empty, .int .i64 0, .int .i64 0]) 4 48 Try.underlying24 HI.out HZ0.out HZ1.out HZ2.out rfl (by decide) gz cz zs.length (zs.flatMap Wai.cs) rfl HL.out.own ⟨w9.heap.size, 0, none⟩ 1 1 (Wai.cs ⟨⟨#[97, 110, 110]⟩, ⟨#[109, 105, 97]⟩, 1, 9⟩) rfl rfl ?c1 (Wai.one _) ?c2 ?c3 ?_)
              case c1 =>
                intro j u hj
                rw [add_plain]
                have := RecAt.new Wai.cs w9 (⟨⟨#[97, 110, 110]⟩, ⟨#[109, 105, 97]⟩, 1, 9⟩ : Wai) 26 j u hj
                rw [Nat.zero_add]; exact this
              case c2 => unfold maxLen; omega
              case c3 => omega
              rintro g7 c7 w7 ⟨h7, h7g, h7b, h7l, h7x⟩
              have HNZ := Lib.hid (show OwnG Wai.cs 4 26 WShort C a len cap w g7 c7 (zs ++ [⟨⟨#[97, 110, 110]⟩, ⟨#[109, 105, 97]⟩, 1, 9⟩]) w7 from HL.out.more hC HA.out rfl rfl (by intro y hy; simp only [List.mem_singleton] at hy; subst hy; exact ⟨by decide, by decide⟩) HL.out.cur HL.out.grown cz (by simpa using h7) h7g)
              clear h7 h7g h7b h7l h7x
              go_wp2
              go_roundw
              case rel => exact ⟨g7, c7, _, by simp, by simp; omega, HNZ.out⟩
              case measure => simp [lenV]; omega
            · have HN := Lib.hid (show DrawnWL C a len cap w 21 (.returned (.slice (some ⟨gz, 0, none⟩) zs.length cz)) w9 from ⟨gz, cz, zs, rfl, hzl, HG9.out⟩)
              go_wp2
              go_ret
              exact HN.out

/-- A list that was drawn. -/
structure GotW (w' : World) (g c : Nat) (xs : List Wai) : Prop where
  lies : Recs Wai.cs w' (some ⟨g, 0, none⟩) xs
  fits : xs.length ≤ c
  few : xs.length ≤ 21
  short : ∀ p ∈ xs, WShort p
theorem gotW_of {C : Nat} {a : Option Addr} {len cap : Nat} {w w' : World} {g cp : Nat} {xs : List Wai} (h : OwnG Wai.cs 4 26 WShort C a len cap w g cp xs w') (hx : xs.length ≤ 21) : GotW w' g cp xs :=
  ⟨h.lies Wai.len, (own_some h.own).2.1, hx, h.all⟩
/-- What DrawWaiting gives. -/
def GivesWW (w : World) (e : Ending) (w' : World) : Prop :=
  ∃ g c xs, ∃ q : Wai, e = .returned (.tuple #[.slice (some ⟨g, 0, none⟩) xs.length c, .agg #[.string q.who, .string q.mill, .int .i64 q.amount, .int .i64 q.ripe]]) ∧ GotW w' g c xs ∧ WShort q ∧ Below w.heap.size w w'
/-- What DrawRipeAt gives. -/
def GivesWI (w : World) (e : Ending) (w' : World) : Prop :=
  ∃ g c xs n, e = .returned (.tuple #[.slice (some ⟨g, 0, none⟩) xs.length c, .int .i64 n]) ∧ GotW w' g c xs ∧ (-1 ≤ n ∧ n ≤ 6) ∧ Below w.heap.size w w'
/-- What DrawWaitsFor gives. -/
def GivesWS (w : World) (e : Ending) (w' : World) : Prop :=
  ∃ g c xs s, e = .returned (.tuple #[.slice (some ⟨g, 0, none⟩) xs.length c, .string s]) ∧ GotW w' g c xs ∧ s.size ≤ 7 ∧ Below w.heap.size w w'
/-- What DrawFined gives. -/
def GivesWF (w : World) (e : Ending) (w' : World) : Prop :=
  ∃ g c xs s p, e = .returned (.tuple #[.slice (some ⟨g, 0, none⟩) xs.length c, .string s, .int .i64 p]) ∧ GotW w' g c xs ∧ s.size ≤ 7 ∧ (-1 ≤ p ∧ p ≤ 101) ∧ Below w.heap.size w w'

theorem recs_apart {f : Wai → List Value} {w w' : World} {g R : Nat} {xs : List Wai} (h : Recs f w (some ⟨g, 0, none⟩) xs) (hg : w.grownBy w' (some R)) (hne : g ≠ R) : Recs f w' (some ⟨g, 0, none⟩) xs := by
  intro k v hk
  obtain ⟨b, off, e, hc⟩ := h k v hk
  injection e with e; injection e with e1 e2; subst e1; subst e2
  exact ⟨g, 0, rfl, kept_cell hg hc hne⟩
set_option maxHeartbeats 2000000 in
set_option maxRecDepth 100000 in
theorem drawWaiting_any {a : Option Addr} {len cap : Nat} {w : World} (h : Src w a len) : Calls Try.prog 12 #[.slice a len cap] w (GivesWW w) := by
  have H := Lib.hid (h.kept (below_new w (.cells #[.string ByteArray.empty, .string ByteArray.empty, .int .i64 0, .int .i64 0] 26)))
  clear h
  have hR0 := mine_lies (lies_new w [.string ByteArray.empty, .string ByteArray.empty, .int .i64 0, .int .i64 0] 26) rfl (free_new _ _ _)
  have HR0 := Lib.hid hR0
  have HBW := Lib.hid (below_new w (.cells #[.string ByteArray.empty, .string ByteArray.empty, .int .i64 0, .int .i64 0] 26))
  clear hR0
  go_enter Try.func12, Try.ntmps12
  go_wp2_with fail
  refine (l1New_any H.out.row H.out.small).mono ?_
  rintro e w0 ⟨rfl, hc0, hb0⟩
  have hsz : (w.alloc (.cells #[.string ByteArray.empty, .string ByteArray.empty, .int .i64 0, .int .i64 0] 26)).heap.size = w.heap.size + 1 := by simp
  have HB0 := Lib.hid hb0
  have HR1 := Lib.hid (HR0.out.below (by simp) hb0)
  rw [hsz] at hc0 ⊢
  have hC : w.heap.size + 1 < w0.heap.size := lt_of_cell hc0.c0
  clear hb0 HR0
  go_wp2_with fail
  refine (l6DrawList_any hc0).mono ?_
  rintro e w1 ⟨g, cp, xs, rfl, hx, hG⟩
  have HG := Lib.hid hG
  clear hG hc0
  go_wp2_with fail
  refine (l6DrawAny_any HG.out.cur).mono ?_
  rintro e w2 ⟨q, hq, rfl, hc2, hg2⟩
  have hG2 := HG.out.draw hC hc2 hg2
  have hR := HR1.out.grown (by omega) hG2.grown (by intro e; injection e with e; omega)
  obtain ⟨r0, q0⟩ := hR.all 0 (by decide)
  obtain ⟨r1, q1⟩ := hR.all 1 (by decide)
  obtain ⟨r2, q2⟩ := hR.all 2 (by decide)
  obtain ⟨r3, q3⟩ := hR.all 3 (by decide)
  simp only [Nat.zero_add] at q0 q1 q2 q3
  have n0 := hR.free 0
  have n1 := hR.free 1
  have n2 := hR.free 2
  have n3 := hR.free 3
  have hlo := hG2.lo
  have HD := Lib.hid (show GivesWW w (.returned (.tuple #[.slice (some ⟨g, 0, none⟩) xs.length cp, .agg #[.string q.who, .string q.mill, .int .i64 q.amount, .int .i64 q.ripe]])) ((((w2.setCell ⟨w.heap.size, 0, none⟩ (.string q.who)).setCell ⟨w.heap.size, 1, none⟩ (.string q.mill)).setCell ⟨w.heap.size, 2, none⟩ (.int .i64 q.amount)).setCell ⟨w.heap.size, 3, none⟩ (.int .i64 q.ripe)) from by
    have hg : w2.grownBy ((((w2.setCell ⟨w.heap.size, 0, none⟩ (.string q.who)).setCell ⟨w.heap.size, 1, none⟩ (.string q.mill)).setCell ⟨w.heap.size, 2, none⟩ (.int .i64 q.amount)).setCell ⟨w.heap.size, 3, none⟩ (.int .i64 q.ripe)) (some w.heap.size) := gset (gset (gset (gset (gid _ _) _) _) _) _
    have hgot := gotW_of hG2 hx
    exact ⟨g, cp, xs, q, rfl, ⟨recs_apart hgot.lies hg (by omega), hgot.fits, hgot.few, hgot.short⟩, hq, below_of (below_trans HBW.out (below_of HB0.out (by rw [hsz]; exact hG2.grown))) hg⟩)
  clear hc2 hg2 hG2 HG hR hsz
  go_wp2
  exact bodyPost_ret (v := .tuple #[.slice (some ⟨g, 0, none⟩) xs.length cp, .agg #[.string q.who, .string q.mill, .int .i64 q.amount, .int .i64 q.ripe]]) (by simp [results, Try.results12, go_sem, q0, q1, q2, q3]) rfl HD.out

set_option maxHeartbeats 1000000 in
set_option maxRecDepth 100000 in
theorem drawRipeAt_any {a : Option Addr} {len cap : Nat} {w : World} (h : Src w a len) : Calls Try.prog 14 #[.slice a len cap] w (GivesWI w) := by
  go_enter Try.func14, Try.ntmps14
  go_wp2_with fail
  refine (l1New_any h.row h.small).mono ?_
  rintro e w0 ⟨rfl, hc0, hb0⟩
  have hC : w.heap.size < w0.heap.size := lt_of_cell hc0.c0
  have HB0 := Lib.hid hb0
  clear hb0
  go_wp2_with fail
  refine (l6DrawList_any hc0).mono ?_
  rintro e w1 ⟨g, cp, xs, rfl, hx, hG⟩
  have HG := Lib.hid hG
  clear hG hc0
  go_wp2_with fail
  refine (l1From_any _ _ HG.out.cur (by omega) (by omega) (by omega)).mono ?_
  rintro e w2 ⟨n, ⟨hn1, hn2⟩, rfl, hc2, hg2⟩
  have hG2 := HG.out.draw hC hc2 hg2
  have HD := Lib.hid (show GivesWI w (.returned (.tuple #[.slice (some ⟨g, 0, none⟩) xs.length cp, .int .i64 n])) w2 from ⟨g, cp, xs, n, rfl, gotW_of hG2 hx, ⟨hn1, hn2⟩, below_of HB0.out hG2.grown⟩)
  clear hc2 hg2 hG2 HG
  go_wp2
  go_ret2
  exact HD.out

set_option maxHeartbeats 1000000 in
set_option maxRecDepth 100000 in
theorem drawWaitsFor_any {a : Option Addr} {len cap : Nat} {w : World} (h : Src w a len) : Calls Try.prog 16 #[.slice a len cap] w (GivesWS w) := by
  go_enter Try.func16, Try.ntmps16
  go_wp2_with fail
  refine (l1New_any h.row h.small).mono ?_
  rintro e w0 ⟨rfl, hc0, hb0⟩
  have hC : w.heap.size < w0.heap.size := lt_of_cell hc0.c0
  have HB0 := Lib.hid hb0
  clear hb0
  go_wp2_with fail
  refine (l6DrawList_any hc0).mono ?_
  rintro e w1 ⟨g, cp, xs, rfl, hx, hG⟩
  have HG := Lib.hid hG
  clear hG hc0
  go_wp2_with fail
  refine (l2DrawAny_any HG.out.cur).mono ?_
  rintro e w2 ⟨s, hs, rfl, hc2, hg2⟩
  have hG2 := HG.out.draw hC hc2 hg2
  have HD := Lib.hid (show GivesWS w (.returned (.tuple #[.slice (some ⟨g, 0, none⟩) xs.length cp, .string s])) w2 from ⟨g, cp, xs, s, rfl, gotW_of hG2 hx, hs, below_of HB0.out hG2.grown⟩)
  clear hc2 hg2 hG2 HG
  go_wp2
  go_ret2
  exact HD.out

set_option maxHeartbeats 2000000 in
set_option maxRecDepth 100000 in
theorem drawFined_any {a : Option Addr} {len cap : Nat} {w : World} (h : Src w a len) : Calls Try.prog 26 #[.slice a len cap] w (GivesWF w) := by
  go_enter Try.func26, Try.ntmps26
  go_wp2_with fail
  refine (l1New_any h.row h.small).mono ?_
  rintro e w0 ⟨rfl, hc0, hb0⟩
  have hC : w.heap.size < w0.heap.size := lt_of_cell hc0.c0
  have HB0 := Lib.hid hb0
  clear hb0
  go_wp2_with fail
  refine (l6DrawList_any hc0).mono ?_
  rintro e w1 ⟨g, cp, xs, rfl, hx, hG⟩
  have HG := Lib.hid hG
  clear hG hc0
  go_wp2_with fail
  refine (l2DrawAny_any HG.out.cur).mono ?_
  rintro e w2 ⟨s, hs, rfl, hc2, hg2⟩
  have HG2 := Lib.hid (HG.out.draw hC hc2 hg2)
  have HS := Lib.hid hs
  clear hc2 hg2 hs HG
  go_wp2_with fail
  refine (l1Below_any _ HG2.out.cur (by omega) (by omega)).mono ?_
  rintro e w3 ⟨p, ⟨hp1, hp2⟩, rfl, hc3, hg3⟩
  have HG3 := Lib.hid (HG2.out.draw hC hc3 hg3)
  clear hc3 hg3 HG2
  have HD : Hid (∀ (n : Int) (W : World), -1 ≤ n → n ≤ 101 → OwnG Wai.cs 4 26 WShort w.heap.size a len cap w0 g cp xs W → GivesWF w (.returned (.tuple #[.slice (some ⟨g, 0, none⟩) xs.length cp, .string s, .int .i64 n])) W) :=
    fun n W h1 h2 hG => ⟨g, cp, xs, s, n, rfl, gotW_of hG hx, HS.out, ⟨h1, h2⟩, below_of HB0.out hG.grown⟩
  go_wp2_with fail
  refine (l1Once_any _ HG3.out.cur (by omega) (by omega)).mono ?_
  rintro e w4 ⟨t, rfl, hc4, hg4⟩
  have HG4 := Lib.hid (HG3.out.draw hC hc4 hg4)
  clear hc4 hg4 HG3
  cases t
  · have HN := Lib.hid (HD.out p w4 (by omega) (by omega) HG4.out)
    go_wp2
    exact bodyPost_ret (v := .tuple #[.slice (some ⟨g, 0, none⟩) xs.length cp, .string s, .int .i64 p]) (by simp [results, Try.results26, go_sem]) rfl HN.out
  · have hlo := HG4.out.lo
    have hC4 : w.heap.size < w4.heap.size := Nat.lt_of_lt_of_le hC HG4.out.grown.size
    go_wp2_with fail
    refine (l1Below_any _ (HG4.out.cur.kept (below_new _ _)) (by omega) (by omega)).mono ?_
    rintro e w5 ⟨z, ⟨hz, hz2⟩, rfl, hc5, hg5⟩
    have HG5 := Lib.hid ((HG4.out.new _).draw hC hc5 hg5)
    have q0 := kept_cell (b := w4.heap.size) (o := 0) hg5 (by go_simp; rfl) (by omega)
    have q1 := kept_cell (b := w4.heap.size) (o := 1) hg5 (by go_simp; rfl) (by omega)
    have q2 := kept_cell (b := w4.heap.size) (o := 2) hg5 (by go_simp; rfl) (by omega)
    have q3 := kept_cell (b := w4.heap.size) (o := 3) hg5 (by go_simp; rfl) (by omega)
    clear hc5 hg5 HG4
    have hz3 : z = 0 ∨ z = 1 ∨ z = 2 ∨ z = 3 := by omega
    rcases hz3 with rfl | rfl | rfl | rfl
    · have HN := Lib.hid (HD.out (-1) w5 (by omega) (by omega) HG5.out)
      go_wp2
      exact bodyPost_ret (v := .tuple #[.slice (some ⟨g, 0, none⟩) xs.length cp, .string s, .int .i64 (-1)]) (by simp [results, Try.results26, go_sem]) rfl HN.out
    · have HN := Lib.hid (HD.out 0 w5 (by omega) (by omega) HG5.out)
      go_wp2
      exact bodyPost_ret (v := .tuple #[.slice (some ⟨g, 0, none⟩) xs.length cp, .string s, .int .i64 0]) (by simp [results, Try.results26, go_sem]) rfl HN.out
    · have HN := Lib.hid (HD.out 100 w5 (by omega) (by omega) HG5.out)
      go_wp2
      exact bodyPost_ret (v := .tuple #[.slice (some ⟨g, 0, none⟩) xs.length cp, .string s, .int .i64 100]) (by simp [results, Try.results26, go_sem]) rfl HN.out
    · have HN := Lib.hid (HD.out 101 w5 (by omega) (by omega) HG5.out)
      go_wp2
      exact bodyPost_ret (v := .tuple #[.slice (some ⟨g, 0, none⟩) xs.length cp, .string s, .int .i64 101]) (by simp [results, Try.results26, go_sem]) rfl HN.out
end Go.Proofs.Ytkdelfadmnpkhaa
