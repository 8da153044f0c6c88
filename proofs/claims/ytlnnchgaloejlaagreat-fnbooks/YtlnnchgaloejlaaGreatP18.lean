/-
  Texts joined: Draw6.
-/
import Derived.Test.YtlnnchgaloejlaaGreatP12
import Derived.Test.YtlnnchgaloejlaaGreatP17
import Derived.Deep.RegionWith
namespace Go.Proofs.YtlnnchgaloejlaaGreat
open Go.ChangeShapes Go.WideShapes Go.ChangeAt Go.RowKit

/-- Short names. -/
def WShort (p : Wai) : Prop := p.who.size ≤ 7 ∧ p.mill.size ≤ 7
/-- One that is drawn. -/
def DrawnW (C : Nat) (a : Option Addr) (len cap : Nat) (w : World) (e : Ending) (w' : World) : Prop :=
  ∃ q : Wai, WShort q ∧ e = .returned (.agg #[.string q.who, .string q.mill, .int .i64 q.amount, .int .i64 q.ripe]) ∧ Cur w' C a len cap ∧ w.grownBy w' (some C)
/-- Between the draws: the result's block is as it was made. -/
structure MidW (C : Nat) (a : Option Addr) (len cap : Nat) (w : World) (W : World) : Prop where
  cur : Cur W C a len cap
  grown : w.grownBy W (some C)
  room : RecAt Wai.cs W w.heap.size wai0
  free : ∀ o, W.frozen? ⟨w.heap.size, o, none⟩ = false
  lt : w.heap.size < W.heap.size
section
variable {C : Nat} {a : Option Addr} {len cap : Nat} {w W W2 : World}
theorem MidW.draw (h : MidW C a len cap w W) (hC : C < w.heap.size) (hc : Cur W2 C a len cap) (hg : W.grownBy W2 (some C)) : MidW C a len cap w W2 where
  cur := hc
  grown := grown_step h.grown hg
  room := fun j v hj => kept_cell hg (h.room j v hj) (by omega)
  free := fun o => by
    rw [World.frozen?_of_block (a := ⟨w.heap.size, o, none⟩) (hg.block w.heap.size h.lt (by intro e; injection e with e; omega))]
    exact h.free o
  lt := Nat.lt_of_lt_of_le h.lt hg.size
theorem MidW.new (h : MidW C a len cap w W) (o : Obj) : MidW C a len cap w (W.alloc o) where
  cur := h.cur.kept (below_new _ _)
  grown := grown_new h.grown o
  room := h.room.below (below_new _ _)
  free := fun q => by rw [(below_new W o).frozen (p := ⟨w.heap.size, q, none⟩) h.lt]; exact h.free q
  lt := Nat.lt_of_lt_of_le h.lt (below_new W o).size
theorem MidW.start (h : Cur w C a len cap) : MidW C a len cap w (w.alloc (.cells #[.string ByteArray.empty, .string ByteArray.empty, .int .i64 0, .int .i64 0] 74)) where
  cur := h.kept (below_new _ _)
  grown := grown_new (grown_refl _ _) _
  room := RecAt.new Wai.cs w wai0 74
  free := free_new w _ _
  lt := by simp
/-- The number that is drawn of two, and the name of that number. -/
def TwoW (j : Nat) (pv : ByteArray) : Prop := (j : Int) < 2 ∧ pv.size ≤ 7 ∧ (#[Value.string ⟨#[97, 110, 110]⟩, .string ⟨#[109, 105, 97]⟩] : Array Value)[j]? = some (.string pv) ∧ ([Value.string ⟨#[97, 110, 110]⟩, .string ⟨#[109, 105, 97]⟩] : List Value)[j]? = some (.string pv)
theorem twoW_of {z : Int} (h : 0 ≤ z) (h2 : z < 2) : ∃ j : Nat, ∃ pv, z = j ∧ TwoW j pv := by
  obtain ⟨j, rfl⟩ : ∃ j : Nat, z = j := ⟨z.toNat, by omega⟩
  match j, h2 with
  | 0, h2 => exact ⟨0, _, rfl, h2, by decide, rfl, rfl⟩
  | 1, h2 => exact ⟨1, _, rfl, h2, by decide, rfl, rfl⟩
theorem TwoW.cell {j : Nat} {pv : ByteArray} (h : TwoW j pv) (w : World) : (w.alloc (.cells #[.string ⟨#[97, 110, 110]⟩, .string ⟨#[109, 105, 97]⟩] 9)).cell? ⟨w.heap.size, j, none⟩ = some (.string pv) := by
  simp only [World.cell?, heap_alloc_new]; exact h.2.2.1
theorem wdrawA (hC : C < w.heap.size) (h : MidW C a len cap w W) : Calls Tryz.prog 51 #[.pointer (some ⟨C, 0, none⟩), .int .i64 2] W.drew fun e w4 => ∃ j pv, e = .returned (.int .i64 (j : Nat)) ∧ TwoW j pv ∧ MidW C a len cap w w4 := by
  refine (l1Below_any 2 (h.cur.kept (below_draws (Below.refl _ _) 1)) (by decide) (by decide)).mono ?_
  rintro e w4 ⟨z, ⟨hz, hz2⟩, rfl, hc4, hg4⟩
  obtain ⟨j, pv, rfl, ht⟩ := twoW_of hz hz2
  exact ⟨j, pv, rfl, ht, h.draw hC hc4 (undrew hg4)⟩
theorem wdrawB (hC : C < w.heap.size) (h : MidW C a len cap w W) : Calls Tryz.prog 51 #[.pointer (some ⟨C, 0, none⟩), .int .i64 2] (W.alloc (.cells #[.string ⟨#[97, 110, 110]⟩, .string ⟨#[109, 105, 97]⟩] 9)).drew fun e w4 => ∃ j pv, e = .returned (.int .i64 (j : Nat)) ∧ TwoW j pv ∧ w4.cell? ⟨W.heap.size, j, none⟩ = some (.string pv) ∧ MidW C a len cap w w4 := by
  refine (l1Below_any 2 (h.cur.kept (below_draws (below_new _ _) 1)) (by decide) (by decide)).mono ?_
  rintro e w4 ⟨z, ⟨hz, hz2⟩, rfl, hc4, hg4⟩
  obtain ⟨j, pv, rfl, ht⟩ := twoW_of hz hz2
  have := h.lt
  exact ⟨j, pv, rfl, ht, kept_cell (undrew hg4) (ht.cell W) (by omega), (h.new _).draw hC hc4 (undrew hg4)⟩
/-- Another number. -/
theorem wdrawC (n : Int) (hn : 1 ≤ n) (hn2 : n ≤ 1000) (hC : C < w.heap.size) (h : MidW C a len cap w W) : Calls Tryz.prog 51 #[.pointer (some ⟨C, 0, none⟩), .int .i64 n] W fun e w5 => ∃ y, e = .returned (.int .i64 y) ∧ (0 ≤ y ∧ y < n) ∧ IntKind.i64.wrap (1 + y) = 1 + y ∧ MidW C a len cap w w5 ∧ ∀ b o v, b ≠ C → W.cell? ⟨b, o, none⟩ = some v → w5.cell? ⟨b, o, none⟩ = some v := by
  refine (l1Below_any n h.cur hn (by omega)).mono ?_
  rintro e w5 ⟨y, ⟨hy, hy2⟩, rfl, hc5, hg5⟩
  exact ⟨y, rfl, ⟨hy, hy2⟩, IntWalk.i64_in _ (by omega), h.draw hC hc5 hg5, fun b o v hb hv => kept_cell hg5 hv hb⟩
theorem drawnW_new {e : Ending} (h : DrawnW C a len cap w e W) (o : Obj) : DrawnW C a len cap w e (W.alloc o) := by
  obtain ⟨q, hq, he, hc, hg⟩ := h
  exact ⟨q, hq, he, hc.kept (below_new _ _), grown_new hg o⟩
theorem end_wait (h : MidW C a len cap w W) (hC : C < w.heap.size) (ha : ∀ b off, a = some ⟨b, off, none⟩ → 0 < len → b < w.heap.size) (q : Wai) (hq : WShort q) :
    DrawnW C a len cap w (.returned (.agg #[.string q.who, .string q.mill, .int .i64 q.amount, .int .i64 q.ripe])) ((((W.setCell ⟨w.heap.size, 0, none⟩ (.string q.who)).setCell ⟨w.heap.size, 1, none⟩ (.string q.mill)).setCell ⟨w.heap.size, 2, none⟩ (.int .i64 q.amount)).setCell ⟨w.heap.size, 3, none⟩ (.int .i64 q.ripe)) := by
  obtain ⟨c1, g1⟩ := cur_set h.cur h.grown hC ha (B := w.heap.size) (o := 0) (Nat.le_refl _) (.string q.who)
  obtain ⟨c2, g2⟩ := cur_set c1 g1 hC ha (B := w.heap.size) (o := 1) (Nat.le_refl _) (.string q.mill)
  obtain ⟨c3, g3⟩ := cur_set c2 g2 hC ha (B := w.heap.size) (o := 2) (Nat.le_refl _) (.int .i64 q.amount)
  obtain ⟨c4, g4⟩ := cur_set c3 g3 hC ha (B := w.heap.size) (o := 3) (Nat.le_refl _) (.int .i64 q.ripe)
  exact ⟨q, hq, rfl, c4, g4⟩
end

set_option maxHeartbeats 8000000 in
set_option maxRecDepth 100000 in
theorem l6Draw_any {C : Nat} {a : Option Addr} {len cap : Nat} {w : World} (h : Cur w C a len cap) :
    Calls Tryz.prog 94 #[.pointer (some ⟨C, 0, none⟩)] w (DrawnW C a len cap w) := by
  have hC : C < w.heap.size := lt_of_cell h.c0
  have HA := Lib.hid h.old
  have HM0 := Lib.hid (MidW.start h)
  clear h
  go_enter Tryz.func94, Tryz.ntmps94
  go_wp2_with fail
  refine (l2Draw_any HM0.out.cur).mono ?_
  rintro e w3 ⟨s, hs, rfl, hc3, hg3⟩
  have HM3 := Lib.hid (HM0.out.draw hC hc3 hg3)
  have HSS := Lib.hid hs
  have hw3 := HM3.out.lt
  clear hc3 hg3 hs HM0
  go_wp2_with fail
  go_region_with (go_at_call 51; first
    | ((with_reducible refine (wdrawB hC HM3.out).mono ?_); rintro e w4 ⟨j, pv, rfl, ht, l4, hM4⟩; have HT := Lib.hid ht; obtain ⟨hj, hpz, hpk, hpk2⟩ := ht; have HPZ := Lib.hid hpz; have HM4 := Lib.hid hM4; have hw4 := hM4.lt; clear hM4 hpz)
    | ((with_reducible refine (wdrawA hC HM3.out).mono ?_); rintro e w4 ⟨j, pv, rfl, ht, hM4⟩; have HT := Lib.hid ht; obtain ⟨hj, hpz, hpk, hpk2⟩ := ht; have HPZ := Lib.hid hpz; have HM4 := Lib.hid hM4; have hw4 := hM4.lt; clear hM4 hpz)
    | ((with_reducible refine (wdrawC 99 (by decide) (by decide) hC HM4.out).mono ?_); rintro e w5 ⟨y, rfl, ⟨hy, hy2⟩, hwr, hM5, hk5⟩; (try have l5 := hk5 _ _ _ (by omega) l4); have HM5 := Lib.hid hM5; have hw5 := hM5.lt; clear hM5 hk5)
    | ((with_reducible refine (wdrawC 99 (by decide) (by decide) hC (HM4.out.new (.cells #[.string ⟨#[97, 110, 110]⟩, .string ⟨#[109, 105, 97]⟩] 9))).mono ?_); rintro e w5 ⟨y, rfl, ⟨hy, hy2⟩, hwr, hM5, hk5⟩; have l5 := hk5 _ _ _ (by have := HM4.out.lt; omega) (HT.out.cell w4); have HM5 := Lib.hid hM5; have hw5 := hM5.lt; clear hM5 hk5)
    | ((with_reducible refine (wdrawC 6 (by decide) (by decide) hC HM5.out).mono ?_); rintro e w6 ⟨x, rfl, ⟨hx, hx2⟩, hwx, hM6, hk6⟩; (try have l6 := hk6 _ _ _ (by omega) l5); have HM6 := Lib.hid hM6; have r0 := hM6.room 0 _ rfl; have r1 := hM6.room 1 _ rfl; have r2 := hM6.room 2 _ rfl; have r3 := hM6.room 3 _ rfl; have f0 := hM6.free 0; have f1 := hM6.free 1; have f2 := hM6.free 2; have f3 := hM6.free 3; have hlt6 := hM6.lt; clear hM6 hk6)
    | ((with_reducible refine (wdrawC 6 (by decide) (by decide) hC (HM5.out.new (.cells #[.string ⟨#[97, 110, 110]⟩, .string ⟨#[109, 105, 97]⟩] 9))).mono ?_); rintro e w6 ⟨x, rfl, ⟨hx, hx2⟩, hwx, hM6, hk6⟩; have l6 := hk6 _ _ _ (by have := HM5.out.lt; omega) (HT.out.cell w5); have HM6 := Lib.hid hM6; have r0 := hM6.room 0 _ rfl; have r1 := hM6.room 1 _ rfl; have r2 := hM6.room 2 _ rfl; have r3 := hM6.room 3 _ rfl; have f0 := hM6.free 0; have f1 := hM6.free 1; have f2 := hM6.free 2; have f3 := hM6.free 3; have hlt6 := hM6.lt; clear hM6 hk6))
  all_goals
    have HDa := Lib.hid (end_wait HM6.out hC HA.out ⟨s, pv, 1 + y, x⟩ ⟨HSS.out, HPZ.out⟩)
    have HDb := Lib.hid (drawnW_new HDa.out (.cells #[.string ⟨#[97, 110, 110]⟩, .string ⟨#[109, 105, 97]⟩] 9))
    go_wp2
    first
      | exact bodyPost_ret (v := .agg #[.string s, .string pv, .int .i64 (1 + y), .int .i64 x]) (by simp [results, Tryz.results94, go_sem, r0, r1, r2, r3]) rfl HDa.out
      | exact bodyPost_ret (v := .agg #[.string s, .string pv, .int .i64 (1 + y), .int .i64 x]) (by simp [results, Tryz.results94, go_sem, r0, r1, r2, r3, hlt6]) rfl HDb.out
end Go.Proofs.YtlnnchgaloejlaaGreat
