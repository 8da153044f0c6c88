/-
  Texts joined: BookN, WaitW, CopyB, CopyC, DoneB, RecutB, MendB, Facts3, DeedB, Draw7, WaitT, WaitR, Impl, WaitF, DrawR.
-/
import Derived.Test.YtoabpbdjffonlaaGreatDoorP1
import Derived.Test.YtoabpbdjffonlaaGreatDoorP2
import Derived.Laws.AppendOwnNone
import Derived.Deep.RegionWith
import Derived.Deep.QuietTactic
import Derived.BigQuiet
import Derived.Lib.Hide
namespace Go.Proofs.YtoabpbdjffonlaaGreatDoor
open Go.ChangeShapes Go.WideShapes Go.ChangeAt Go.RowKit

end Go.Proofs.YtoabpbdjffonlaaGreatDoor
namespace Go.Proofs.YtoabpbdjffonlaaGreatDoor
open Go.ChangeShapes Go.WideShapes Go.ChangeAt Go.RowKit

end Go.Proofs.YtoabpbdjffonlaaGreatDoor
namespace Go.Proofs.YtoabpbdjffonlaaGreatDoor
open Go.ChangeShapes Go.WideShapes Go.ChangeAt Go.RowKit

theorem OutV.keep {w w' : World} {O x : Nat} {vs : List Value} (h : OutV w O vs) (hg : w.grownBy w' (some x)) (hne : x ≠ O) : OutV w' O vs :=
  have hn : some O ≠ some x := by intro q; injection q with q; exact hne q.symm
  ⟨fun j v hj => (grown_keeps hg h.lt hn).trans (h.has j v hj), fun o => (World.frozen?_of_block (hg.block O h.lt hn)).trans (h.free o), Nat.lt_of_lt_of_le h.lt hg.size⟩
end Go.Proofs.YtoabpbdjffonlaaGreatDoor
namespace Go.Proofs.YtoabpbdjffonlaaGreatDoor
open Go.ChangeShapes Go.WideShapes Go.ChangeAt Go.RowKit

/-- Each of its lists has a block. -/
structure Solid (s : Spots) : Prop where
  f : ∃ x, s.fa = some ⟨x, 0, none⟩
  m : ∃ x, s.ma = some ⟨x, 0, none⟩
  p : ∃ x, s.pa = some ⟨x, 0, none⟩
  w : ∃ x, s.wa = some ⟨x, 0, none⟩
end Go.Proofs.YtoabpbdjffonlaaGreatDoor
namespace Go.Proofs.YtoabpbdjffonlaaGreatDoor
open Go.ChangeShapes Go.WideShapes Go.ChangeAt Go.RowKit

theorem OwnP.apart {w w' : World} {B x : Nat} {a : Option Addr} {ps : List Pur} (h : OwnP w B a ps) (hg : w.grownBy w' (some x)) (hne : ∀ b, a = some ⟨b, 0, none⟩ → 0 < ps.length → b ≠ x) : OwnP w' B a ps := by
  by_cases h0 : ps = []
  · subst h0; exact ⟨Lies.nil _ _, .inl rfl⟩
  rcases h.2 with e | ⟨b, rfl, h1, h2, hm⟩
  · exact absurd e h0
  · have hn : some b ≠ some x := by intro e; injection e with e; exact hne b rfl (length_ne h0) e
    refine ⟨?_, .inr ⟨b, rfl, h1, Nat.lt_of_lt_of_le h2 hg.size, hm.grown h2 hg hn⟩⟩
    intro k v hk
    obtain ⟨b', off, e, hc⟩ := h.1 k v hk
    injection e with e; injection e with e1 e2; subst e1; subst e2
    exact ⟨b, 0, rfl, by rw [grown_keeps hg h2 hn]; exact hc⟩
theorem OwnB.apart {w w' : World} {B x : Nat} {b : Bok} {s : Spots} (h : OwnB w B b s) (hg : w.grownBy w' (some x)) (hn : NotIn b s x) : OwnB w' B b s :=
  ⟨h.folk.apart hg hn.folk, h.mills.apart hg (fun y e hy => hn.mills y e (length_ne hy)), h.parts.apart hg (fun y e hy => hn.parts y e (length_ne hy)), h.waits.apart hg (fun y e hy => hn.waits y e (length_ne hy)), h.fm, h.fp, h.fw, h.mp, h.mw, h.pw, h.rt⟩
theorem OwnB.mono {w : World} {B B' : Nat} {b : Bok} {s : Spots} (h : OwnB w B b s) (hB : B' ≤ B) : OwnB w B' b s :=
  ⟨h.folk.mono hB, h.mills.mono hB, h.parts.mono hB, h.waits.mono hB, h.fm, h.fp, h.fw, h.mp, h.mw, h.pw, h.rt⟩
end Go.Proofs.YtoabpbdjffonlaaGreatDoor
namespace Go.Proofs.YtoabpbdjffonlaaGreatDoor
open Go.ChangeShapes Go.WideShapes Go.ChangeAt Go.RowKit

end Go.Proofs.YtoabpbdjffonlaaGreatDoor
namespace Go.Proofs.YtoabpbdjffonlaaGreatDoor
open Go.ChangeShapes Go.WideShapes Go.ChangeAt Go.RowKit

end Go.Proofs.YtoabpbdjffonlaaGreatDoor
namespace Go.Proofs.YtoabpbdjffonlaaGreatDoor
open Go.ChangeShapes Go.WideShapes Go.ChangeAt Go.RowKit

end Go.Proofs.YtoabpbdjffonlaaGreatDoor
namespace Go.Proofs.YtoabpbdjffonlaaGreatDoor
open Go.ChangeShapes Go.WideShapes Go.ChangeAt Go.RowKit

theorem OwnP.lo {w : World} {B : Nat} {a : Option Addr} {ps : List Pur} (h : OwnP w B a ps) : ∀ x, a = some ⟨x, 0, none⟩ → 0 < ps.length → B ≤ x := by
  intro x e h0
  rcases h.2 with rfl | ⟨b, e', h1, -, -⟩
  · simp at h0
  · rw [e] at e'; injection e' with e'; injection e' with e'; omega
theorem OwnP.hi {w : World} {B : Nat} {a : Option Addr} {ps : List Pur} (h : OwnP w B a ps) : ∀ x, a = some ⟨x, 0, none⟩ → 0 < ps.length → x < w.heap.size := by
  intro x e h0
  rcases h.2 with rfl | ⟨b, e', -, h1, -⟩
  · simp at h0
  · rw [e] at e'; injection e' with e'; injection e' with e'; omega
theorem OwnR.lo {α : Type} {f : α → List Value} {c : Nat} {w : World} {B : Nat} {a : Option Addr} {ps : List α} (h : OwnR f c w B a ps) : ∀ x, a = some ⟨x, 0, none⟩ → 0 < ps.length → B ≤ x := by
  intro x e h0
  rcases h.2 with rfl | ⟨b, e', h1, -, -⟩
  · simp at h0
  · rw [e] at e'; injection e' with e'; injection e' with e'; omega
theorem OwnR.hi {α : Type} {f : α → List Value} {c : Nat} {w : World} {B : Nat} {a : Option Addr} {ps : List α} (h : OwnR f c w B a ps) : ∀ x, a = some ⟨x, 0, none⟩ → 0 < ps.length → x < w.heap.size := by
  intro x e h0
  rcases h.2 with rfl | ⟨b, e', -, h1, -⟩
  · simp at h0
  · rw [e] at e'; injection e' with e'; injection e' with e'; omega
theorem rooted_own {α : Type} {f : α → List Value} {c : Nat} {w : World} {B : Nat} {a : Option Addr} {xs : List α} (h : OwnR f c w B a xs) (hne : 0 < xs.length) : ∃ x, a = some ⟨x, 0, none⟩ := by
  rcases h.2 with rfl | ⟨b, e, -⟩
  · simp at hne
  · exact ⟨b, e⟩
section
variable {w : World} {B : Nat} {b : Bok} {s : Spots}
/-- Where a mill of the call's own lies, and that it may be written. -/
theorem OwnB.mill (h : OwnB w B b s) {k : Nat} (hk : k < b.mills.length) : ∃ x, s.ma = some ⟨x, 0, none⟩ ∧ B ≤ x ∧ x < w.heap.size ∧
    w.cell? ⟨x, k * 5, none⟩ = some (.string b.mills[k].name) ∧ w.cell? ⟨x, k * 5 + 1, none⟩ = some (.int .i64 b.mills[k].stake) ∧ w.cell? ⟨x, k * 5 + 2, none⟩ = some (.int .i64 b.mills[k].shares) ∧ w.cell? ⟨x, k * 5 + 3, none⟩ = some (.int .i64 b.mills[k].cut) ∧ w.cell? ⟨x, k * 5 + 4, none⟩ = some (.bool b.mills[k].shut) ∧ ∀ o, w.frozen? ⟨x, o, none⟩ = false := by
  rcases h.mills.2 with e | ⟨x, e, h1, h2, hm⟩
  · rw [e] at hk; simp at hk
  · have hr := h.mills.1
    rw [e] at hr
    obtain ⟨b', off', e', _, q0, q1, q2, q3, q4⟩ := Mil.at hr k hk
    injection e' with e'; injection e' with e1 e2; subst e1; subst e2
    simp only [Nat.zero_add] at q0 q1 q2 q3 q4
    exact ⟨x, e, h1, h2, q0, q1, q2, q3, q4, hm.free⟩
end
theorem OutV.under {w w' : World} {O C : Nat} {vs : List Value} (h : OutV w O vs) (hb : Below C w w') (hC : O < C) : OutV w' O vs :=
  ⟨fun j v hj => (hb.cell (p := ⟨O, j, none⟩) hC).trans (h.has j v hj), fun o => (hb.frozen (p := ⟨O, o, none⟩) hC).trans (h.free o), Nat.lt_of_lt_of_le h.lt hb.size⟩
/-- A block that may be written. -/
def FreeB (w : World) (B : Nat) : Prop := (∀ o, w.frozen? ⟨B, o, none⟩ = false) ∧ B < w.heap.size
theorem FreeB.below {w w' : World} {B : Nat} (h : FreeB w B) (hb : Below w.heap.size w w') : FreeB w' B := ⟨fun o => (hb.frozen (p := ⟨B, o, none⟩) h.2).trans (h.1 o), Nat.lt_of_lt_of_le h.2 hb.size⟩
theorem FreeB.under {w w' : World} {B C : Nat} (h : FreeB w B) (hb : Below C w w') (hC : B < C) : FreeB w' B := ⟨fun o => (hb.frozen (p := ⟨B, o, none⟩) hC).trans (h.1 o), Nat.lt_of_lt_of_le h.2 hb.size⟩
theorem FreeB.set {w : World} {B : Nat} (h : FreeB w B) (p : Addr) (v : Value) : FreeB (w.setCell p v) B := ⟨fun o => by have := h.1 o; go_simp, by simpa [World.setCell] using h.2⟩
theorem FreeB.new (w : World) (vs : Array Value) (T : TypeId) : FreeB (w.alloc (.cells vs T)) w.heap.size := ⟨free_new _ _ _, by simp⟩
theorem Mine.under {w w' : World} {b off n C : Nat} (h : Mine w b off n) (hb : b < C) (k : Below C w w') : Mine w' b off n where
  all := fun j hj => by obtain ⟨u, hu⟩ := h.all j hj; exact ⟨u, by rw [k.cell (p := ⟨b, off + j, none⟩) hb]; exact hu⟩
  free := fun o => by rw [k.frozen (p := ⟨b, o, none⟩) hb]; exact h.free o
/-- A book of the call's own, whole: its cells, its lists, and where they lie. -/
structure MineB (w : World) (X C : Nat) (x : Bok) (t : Spots) : Prop where
  c : CellB w X x t
  f : FreeB w X
  o : OwnB w C x t
  n : NotIn x t X
  lo : C ≤ X
  p : ∃ y, t.pa = some ⟨y, 0, none⟩
  q : ∃ y, t.wa = some ⟨y, 0, none⟩
section
variable {w w' : World} {X C : Nat} {x : Bok} {t : Spots}
theorem MineB.below (h : MineB w X C x t) (hb : Below w.heap.size w w') : MineB w' X C x t := ⟨h.c.below hb, h.f.below hb, h.o.below hb, h.n, h.lo, h.p, h.q⟩
theorem MineB.draw (h : MineB w X C x t) : MineB w.drew X C x t := h.below (below_draws (Below.refl _ _) 1)
theorem MineB.base (h : MineB w X C x t) : C ≤ w.heap.size := by have := h.lo; have := h.f.2; omega
/-- The cells of one mill, which may be written. -/
structure MillC (w : World) (y k : Nat) (m : Mil) : Prop where
  c0 : w.cell? ⟨y, k * 5, none⟩ = some (.string m.name)
  c1 : w.cell? ⟨y, k * 5 + 1, none⟩ = some (.int .i64 m.stake)
  c2 : w.cell? ⟨y, k * 5 + 2, none⟩ = some (.int .i64 m.shares)
  c3 : w.cell? ⟨y, k * 5 + 3, none⟩ = some (.int .i64 m.cut)
  c4 : w.cell? ⟨y, k * 5 + 4, none⟩ = some (.bool m.shut)
  f : ∀ o, w.frozen? ⟨y, o, none⟩ = false
theorem MineB.c5 (h : MineB w X C x t) {y : Nat} (e : t.ma = some ⟨y, 0, none⟩) : w.cell? ⟨X, 5, none⟩ = some (.slice (some ⟨y, 0, none⟩) x.mills.length t.mc) := by have := h.c.c5; rw [e] at this; exact this
/-- Nothing below turns. -/
theorem MineB.kept {X0 C0 : Nat} {x0 : Bok} {t0 : Spots} (h : MineB w X0 C0 x0 t0) (hb : Below C w w') (hX : X0 < C) (ho : BOld x0 t0 C) : MineB w' X0 C0 x0 t0 := by
  refine ⟨h.c.under hb hX, h.f.under hb hX, ?_, h.n, h.lo, h.p, h.q⟩
  have at' := h.o.at.under hb ho
  refine ⟨⟨at'.folk, ?_⟩, ⟨at'.mills, ?_⟩, ⟨at'.parts, ?_⟩, ⟨at'.waits, ?_⟩, h.o.fm, h.o.fp, h.o.fw, h.o.mp, h.o.mw, h.o.pw, h.o.rt⟩
  · rcases h.o.folk.2 with e | ⟨b, e, h1, h2, hm⟩
    · exact .inl e
    · by_cases h0 : x0.folk = []
      · exact .inl h0
      · exact .inr ⟨b, e, h1, Nat.lt_of_lt_of_le h2 hb.size, hm.under (ho.folk b 0 e (length_ne h0)) hb⟩
  · rcases h.o.mills.2 with e | ⟨b, e, h1, h2, hm⟩
    · exact .inl e
    · by_cases h0 : x0.mills = []
      · exact .inl h0
      · exact .inr ⟨b, e, h1, Nat.lt_of_lt_of_le h2 hb.size, hm.under (ho.mills b 0 e (length_ne h0)) hb⟩
  · rcases h.o.parts.2 with e | ⟨b, e, h1, h2, hm⟩
    · exact .inl e
    · by_cases h0 : x0.parts = []
      · exact .inl h0
      · exact .inr ⟨b, e, h1, Nat.lt_of_lt_of_le h2 hb.size, hm.under (ho.parts b 0 e (length_ne h0)) hb⟩
  · rcases h.o.waits.2 with e | ⟨b, e, h1, h2, hm⟩
    · exact .inl e
    · by_cases h0 : x0.waits = []
      · exact .inl h0
      · exact .inr ⟨b, e, h1, Nat.lt_of_lt_of_le h2 hb.size, hm.under (ho.waits b 0 e (length_ne h0)) hb⟩
end
end Go.Proofs.YtoabpbdjffonlaaGreatDoor
namespace Go.Proofs.YtoabpbdjffonlaaGreatDoor
open Go.ChangeShapes Go.WideShapes Go.ChangeAt Go.RowKit

theorem CellB.keepG {w w' : World} {X C : Nat} {b : Bok} {s : Spots} (h : CellB w X b s) (hg : w.grownBy w' (some C)) (hne : X ≠ C) : CellB w' X b s :=
  ⟨kept_cell hg h.c0 hne, kept_cell hg h.c1 hne, kept_cell hg h.c2 hne, kept_cell hg h.c3 hne, kept_cell hg h.c4 hne, kept_cell hg h.c5 hne, kept_cell hg h.c6 hne, kept_cell hg h.c7 hne⟩
theorem ann7 : (⟨#[97, 110, 110]⟩ : ByteArray).size ≤ 7 := by decide
theorem mia7 : (⟨#[109, 105, 97]⟩ : ByteArray).size ≤ 7 := by decide
/-- A draw under way: the cursor is right, and nothing that was there has turned but for it. -/
structure Way (w : World) (C : Nat) (a : Option Addr) (len cap : Nat) (W : World) : Prop where
  cur : Cur W C a len cap
  grown : w.grownBy W (some C)
  hC : C < w.heap.size
  old : ∀ b off, a = some ⟨b, off, none⟩ → 0 < len → b < w.heap.size
section
variable {w W W' : World} {C : Nat} {a : Option Addr} {len cap : Nat}
theorem Way.start (h : Cur w C a len cap) : Way w C a len cap w := ⟨h, grown_refl _ _, lt_of_cell h.c0, h.old⟩
theorem Way.draw (h : Way w C a len cap W) (hc : Cur W' C a len cap) (hg : W.grownBy W' (some C)) : Way w C a len cap W' := ⟨hc, grown_step h.grown hg, h.hC, h.old⟩
theorem Way.below (h : Way w C a len cap W) (hb : Below W.heap.size W W') : Way w C a len cap W' := ⟨h.cur.kept hb, grown_step h.grown (below_grown hb _), h.hC, h.old⟩
theorem Way.set (h : Way w C a len cap W) {B : Nat} (hB : w.heap.size ≤ B) (o : Nat) (v : Value) : Way w C a len cap (W.setCell ⟨B, o, none⟩ v) :=
  ⟨(cur_set h.cur h.grown h.hC h.old hB v).1, (cur_set h.cur h.grown h.hC h.old hB v).2, h.hC, h.old⟩
end

theorem l1Max_any (x y : Int) (w : World) : Calls Tryz.prog 46 #[.int .i64 x, .int .i64 y] w fun e w' => e = .returned (.int .i64 (max x y)) ∧ w = w' := by
  by_cases h : y < x
  · have e : max x y = x := by omega
    rw [e]
    clear e
    go_enter Tryz.func46, Tryz.ntmps46
    go_wp2
    go_ret
    exact ⟨rfl, rfl⟩
  · have e : max x y = y := by omega
    rw [e]
    clear e
    go_enter Tryz.func46, Tryz.ntmps46
    go_wp2
    go_ret
    exact ⟨rfl, rfl⟩
theorem seven_max {s : ByteArray} (h : s.size ≤ 7) : s.size ≤ maxLen := Nat.le_trans h (by unfold maxLen; omega)
/-- .. and no longer than a name that is drawn. -/
theorem l2DrawSame_tight {C : Nat} {a : Option Addr} {len cap : Nat} {w : World} (s : ByteArray) (hs : s.size ≤ maxLen) (h : Cur w C a len cap) :
    Calls Tryz.prog 45 #[.pointer (some ⟨C, 0, none⟩), .string s] w fun e w' => ∃ t : ByteArray, t.size ≤ 7 ∧ e = .returned (.string t) ∧ Cur w' C a len cap ∧ w.grownBy w' (some C) := by
  go_enter Tryz.func45, Tryz.ntmps45
  go_wp2_with fail
  refine (sNameOk_any s _ hs).mono ?_
  rintro e w' ⟨rfl, rfl⟩
  cases hn : nameB s
  · go_wp2_with fail
    refine (l2Draw_any h).mono ?_
    rintro e w2 ⟨t, ht, rfl, hc2, hg2⟩
    go_wp2
    go_ret
    exact ⟨t, ht, rfl, hc2, hg2⟩
  · have hz := (nameB_true hn).2.1
    have HZ := Lib.hid (show s.size ≤ 7 by omega)
    clear hz hn
    go_wp2
    go_ret
    exact ⟨s, HZ.out, rfl, h, grown_refl _ _⟩

/-- A part of right names and shares. -/
def PGood (p : Par) : Prop := p.who.size ≤ 7 ∧ p.mill.size ≤ 7 ∧ 1 ≤ p.shares ∧ p.shares ≤ 1000000000
def DrawnPt (C : Nat) (a : Option Addr) (len cap : Nat) (w : World) (e : Ending) (w' : World) : Prop :=
  ∃ p : Par, PGood p ∧ e = .returned (.agg #[.string p.who, .string p.mill, .int .i64 p.shares]) ∧ Cur w' C a len cap ∧ w.grownBy w' (some C)
theorem part_good {p : Par} (h : partB p = true) : PGood p := by
  have h1 := part_bd1 h
  simp only [partB, Bool.and_eq_true] at h
  have h2 := (nameB_true h.1).2.1
  have h3 := (nameB_true h.2.1).2.1
  exact ⟨by omega, by omega, h1.1, h1.2⟩
/-- The record is written into the result's block. -/
theorem end_part {w W : World} {C : Nat} {a : Option Addr} {len cap : Nat} {B : Nat} (h : Way w C a len cap W) (hB : w.heap.size ≤ B) (p : Par) (hp : PGood p) :
    DrawnPt C a len cap w (.returned (.agg #[.string p.who, .string p.mill, .int .i64 p.shares])) (((W.setCell ⟨B, 0, none⟩ (.string p.who)).setCell ⟨B, 1, none⟩ (.string p.mill)).setCell ⟨B, 2, none⟩ (.int .i64 p.shares)) := by
  have h3 := ((h.set hB 0 (.string p.who)).set hB 1 (.string p.mill)).set hB 2 (.int .i64 p.shares)
  exact ⟨p, hp, rfl, h3.cur, h3.grown⟩

set_option maxHeartbeats 8000000 in
set_option maxRecDepth 100000 in
theorem l10DrawPart_any {C B : Nat} {a : Option Addr} {len cap : Nat} {w : World} {b : Bok} {s : Spots} (h : Cur w C a len cap) (ho : OwnB w B b s) (hCB : C < B) (hp : partsB b.parts = true) :
    Calls Tryz.prog 44 #[.pointer (some ⟨C, 0, none⟩), .agg #[.int .i64 b.season, .int .i64 b.supply, .int .i64 b.burnt, .int .i64 b.pot, .slice s.fa b.folk.length s.fc, .slice s.ma b.mills.length s.mc, .slice s.pa b.parts.length s.pc, .slice s.wa b.waits.length s.wc]] w (DrawnPt C a len cap w) := by
  have hC : C < w.heap.size := lt_of_cell h.c0
  have HW := Lib.hid (Way.start h)
  have HO := Lib.hid ho
  have HP := Lib.hid hp
  have hp20 := (parts_true hp).1
  clear h ho hp
  have XC := Lib.hid (CellB.new w b s 47)
  obtain ⟨W0, hW0⟩ : ∃ W, w.alloc (.cells #[.int .i64 b.season, .int .i64 b.supply, .int .i64 b.burnt, .int .i64 b.pot, .slice s.fa b.folk.length s.fc, .slice s.ma b.mills.length s.mc, .slice s.pa b.parts.length s.pc, .slice s.wa b.waits.length s.wc] 47) = W := ⟨_, rfl⟩
  have hs0 : W0.heap.size = w.heap.size + 1 := by rw [← hW0]; simp
  have b0 := below_new w (.cells #[.int .i64 b.season, .int .i64 b.supply, .int .i64 b.burnt, .int .i64 b.pot, .slice s.fa b.folk.length s.fc, .slice s.ma b.mills.length s.mc, .slice s.pa b.parts.length s.pc, .slice s.wa b.waits.length s.wc] 47)
  rw [hW0] at XC b0
  have bz := below_new W0 (.cells #[.string ⟨#[]⟩, .string ⟨#[]⟩, .int .i64 0] 88)
  have R := Lib.hid (OutV.new W0 [.string ⟨#[]⟩, .string ⟨#[]⟩, .int .i64 0] 88)
  obtain ⟨W1, hW1⟩ : ∃ W, W0.alloc (.cells #[.string ⟨#[]⟩, .string ⟨#[]⟩, .int .i64 0] 88) = W := ⟨_, rfl⟩
  rw [show W0.alloc (.cells ([.string ⟨#[]⟩, .string ⟨#[]⟩, .int .i64 0] : List Value).toArray 88) = W1 from hW1, hs0] at R
  rw [hW1] at bz
  replace HW := Lib.hid (HW.out.below (below_trans b0 bz))
  replace HO := Lib.hid (HO.out.below (below_trans b0 bz))
  replace XC := Lib.hid (XC.out.below bz)
  clear b0 bz
  have x6 := XC.out.c6
  go_enter Tryz.func44, Tryz.ntmps44
  by_cases h0 : 0 < b.parts.length
  case neg =>
    obtain hz : b.parts.length = 0 := by omega
    have HZ := Lib.hid hz
    rw [hz] at x6
    clear hz h0
    go_wp2_with fail
    refine (l2DrawAny_any HW.out.cur).mono ?_
    rintro e w2 ⟨t, ht, rfl, hc2, hg2⟩
    replace HW := Lib.hid (HW.out.draw hc2 hg2)
    replace R := Lib.hid (R.out.keep hg2 (by omega))
    clear hc2 hg2 x6
    go_wp2_with fail
    refine (l1Below_any _ (HW.out.cur.kept (below_new _ _)) (by omega) (by omega)).mono ?_
    rintro e w3 ⟨x, ⟨hx, hx2⟩, rfl, hc3, hg3⟩
    have hlt2 := HW.out.grown.size
    have q0 := kept_cell (b := w2.heap.size) (o := 0) hg3 (by go_simp; rfl) (by omega)
    have q1 := kept_cell (b := w2.heap.size) (o := 1) hg3 (by go_simp; rfl) (by omega)
    replace HW := Lib.hid ((HW.out.below (below_new _ _)).draw hc3 hg3)
    replace R := Lib.hid ((R.out.below (below_new _ _)).keep hg3 (by omega))
    clear hc3 hg3
    have r0 := R.out.has 0 _ rfl
    have r1 := R.out.has 1 _ rfl
    have r2 := R.out.has 2 _ rfl
    have rf := R.out.free
    have hx3 : x = 0 ∨ x = 1 := by omega
    rcases hx3 with rfl | rfl
    · have HE := Lib.hid (end_part HW.out (B := w.heap.size + 1) (by omega) ⟨t, ⟨#[97, 110, 110]⟩, 5⟩ ⟨ht, ann7, (by show (1 : Int) ≤ 5; omega), (by show (5 : Int) ≤ 1000000000; omega)⟩)
      go_wp2
      exact bodyPost_ret (v := .agg #[.string t, .string ⟨#[97, 110, 110]⟩, .int .i64 5]) (by simp [results, Tryz.results44, go_sem, r0, r1, r2]) rfl HE.out
    · have HE := Lib.hid (end_part HW.out (B := w.heap.size + 1) (by omega) ⟨t, ⟨#[109, 105, 97]⟩, 5⟩ ⟨ht, mia7, (by show (1 : Int) ≤ 5; omega), (by show (5 : Int) ≤ 1000000000; omega)⟩)
      go_wp2
      exact bodyPost_ret (v := .agg #[.string t, .string ⟨#[109, 105, 97]⟩, .int .i64 5]) (by simp [results, Tryz.results44, go_sem, r0, r1, r2]) rfl HE.out
  have hd : decide ((b.parts.length : Int) > 0) = true := by simp; omega
  go_wp2_with fail
  refine (l1Once_any _ HW.out.cur (by omega) (by omega)).mono ?_
  rintro e w2 ⟨t, rfl, hc2, hg2⟩
  replace HW := Lib.hid (HW.out.draw hc2 hg2)
  replace R := Lib.hid (R.out.keep hg2 (by omega))
  replace HO := Lib.hid (HO.out.grown hg2 hCB)
  replace XC := Lib.hid (XC.out.keepG hg2 (by omega))
  clear hc2 hg2 x6
  cases t
  case true =>
    go_wp2_with fail
    refine (l2DrawAny_any HW.out.cur).mono ?_
    rintro e w3 ⟨t, ht, rfl, hc2, hg2⟩
    replace HW := Lib.hid (HW.out.draw hc2 hg2)
    replace R := Lib.hid (R.out.keep hg2 (by omega))
    clear hc2 hg2
    go_wp2_with fail
    refine (l1Below_any _ (HW.out.cur.kept (below_new _ _)) (by omega) (by omega)).mono ?_
    rintro e w4 ⟨x, ⟨hx, hx2⟩, rfl, hc3, hg3⟩
    have hlt2 := HW.out.grown.size
    have q0 := kept_cell (b := w3.heap.size) (o := 0) hg3 (by go_simp; rfl) (by omega)
    have q1 := kept_cell (b := w3.heap.size) (o := 1) hg3 (by go_simp; rfl) (by omega)
    replace HW := Lib.hid ((HW.out.below (below_new _ _)).draw hc3 hg3)
    replace R := Lib.hid ((R.out.below (below_new _ _)).keep hg3 (by omega))
    clear hc3 hg3
    have r0 := R.out.has 0 _ rfl
    have r1 := R.out.has 1 _ rfl
    have r2 := R.out.has 2 _ rfl
    have rf := R.out.free
    have hx3 : x = 0 ∨ x = 1 := by omega
    rcases hx3 with rfl | rfl
    · have HE := Lib.hid (end_part HW.out (B := w.heap.size + 1) (by omega) ⟨t, ⟨#[97, 110, 110]⟩, 5⟩ ⟨ht, ann7, (by show (1 : Int) ≤ 5; omega), (by show (5 : Int) ≤ 1000000000; omega)⟩)
      go_wp2
      exact bodyPost_ret (v := .agg #[.string t, .string ⟨#[97, 110, 110]⟩, .int .i64 5]) (by simp [results, Tryz.results44, go_sem, r0, r1, r2]) rfl HE.out
    · have HE := Lib.hid (end_part HW.out (B := w.heap.size + 1) (by omega) ⟨t, ⟨#[109, 105, 97]⟩, 5⟩ ⟨ht, mia7, (by show (1 : Int) ≤ 5; omega), (by show (5 : Int) ≤ 1000000000; omega)⟩)
      go_wp2
      exact bodyPost_ret (v := .agg #[.string t, .string ⟨#[109, 105, 97]⟩, .int .i64 5]) (by simp [results, Tryz.results44, go_sem, r0, r1, r2]) rfl HE.out
  have x6 := XC.out.c6
  obtain ⟨xp, ep⟩ := rooted_own HO.out.parts h0
  have EP := Lib.hid ep
  rw [ep] at x6
  clear ep
  go_wp2_with fail
  go_region_with (go_at_call 26; refine (l1Below_any _ (HW.out.cur.kept (below_draws (Below.refl _ _) 1)) (by omega) (by omega)).mono ?_; rintro e w4 ⟨x, ⟨hx, hx2⟩, rfl, hc3, hg3⟩; obtain ⟨j, rfl⟩ : ∃ j : Nat, x = j := (⟨x.toNat, by omega⟩); have hj : j < b.parts.length := (by omega); have HW4 := Lib.hid (HW.out.draw hc3 (undrew hg3)); have R4 := Lib.hid (R.out.keep (undrew hg3) (by omega)); have HO4 := Lib.hid (HO.out.grown (undrew hg3) hCB); have x64 := (XC.out.keepG (undrew hg3) (by omega)).c6; rw [EP.out] at x64; obtain ⟨p4, o4, e4, -, m0, m1, m2⟩ := Par.at HO4.out.at.parts j hj; rw [EP.out] at e4; obtain ⟨rfl, rfl⟩ : p4 = xp ∧ o4 = 0 := (by injection e4 with e4; injection e4 with e1 e2; exact ⟨e1.symm, e2.symm⟩); clear e4 hc3 hg3; simp only [Nat.zero_add] at m0 m1 m2; have r0 := R4.out.has 0 _ rfl; have r1 := R4.out.has 1 _ rfl; have r2 := R4.out.has 2 _ rfl; have rf := R4.out.free)
  all_goals
    have HE := Lib.hid (end_part HW4.out (B := w.heap.size + 1) (by omega) b.parts[j] (part_good ((parts_true HP.out).2.1 j hj hj)))
    go_wp2
    exact bodyPost_ret (v := .agg #[.string b.parts[j].who, .string b.parts[j].mill, .int .i64 b.parts[j].shares]) (by simp [results, Tryz.results44, go_sem, r0, r1, r2]) rfl HE.out
end Go.Proofs.YtoabpbdjffonlaaGreatDoor
namespace Go.Proofs.YtoabpbdjffonlaaGreatDoor
open Go.ChangeShapes Go.WideShapes Go.ChangeAt Go.RowKit

section
variable {ps : List Wai} {q : Wai}
end
section
variable {w wz : World} {b off k cap : Nat} {ps : List Wai} {q : Wai}
end

end Go.Proofs.YtoabpbdjffonlaaGreatDoor
namespace Go.Proofs.YtoabpbdjffonlaaGreatDoor
open Go.ChangeShapes Go.WideShapes Go.ChangeAt Go.RowKit

end Go.Proofs.YtoabpbdjffonlaaGreatDoor
namespace Go.Proofs.YtoabpbdjffonlaaGreatDoor
open Go.ChangeShapes Go.WideShapes Go.ChangeAt Go.RowKit

/-- Nothing that was there has changed; there may be new blocks. -/
def Fresh (w w' : World) : Prop := Below w.heap.size w w' ∧ Grown w w'
theorem Fresh.refl (w : World) : Fresh w w := ⟨Below.refl _ _, Grown.refl _⟩
theorem Fresh.alloc {w w' : World} (h : Fresh w w') (c : Array Value) (t : TypeId) : Fresh w (w'.alloc (.cells c t)) :=
  ⟨h.1.alloc h.1.size _, h.2.alloc c t⟩
theorem Fresh.trans {a b c : World} (h : Fresh a b) (k : Fresh b c) : Fresh a c :=
  ⟨h.1.trans (k.1.mono h.1.size), World.keptBut_trans h.2.1 (World.keptBut_mono (fun _ f => f.elim) k.2.1), fun p => (k.2.2.1 p).trans (h.2.2.1 p), Nat.le_trans h.2.2.2 k.2.2.2⟩

end Go.Proofs.YtoabpbdjffonlaaGreatDoor
namespace Go.Proofs.YtoabpbdjffonlaaGreatDoor
open Go.ChangeShapes Go.WideShapes Go.ChangeAt Go.RowKit

section
variable {ps : List Wai} {mill : ByteArray} {pc : Int} {k : Nat}
end

end Go.Proofs.YtoabpbdjffonlaaGreatDoor
namespace Go.Proofs.YtoabpbdjffonlaaGreatDoor
open Go.ChangeShapes Go.WideShapes Go.ChangeAt Go.RowKit

section
variable {α : Type}
/-- The list xs, of the call's own, lies in block g; of each one Z holds; the cursor is right. -/
structure OwnG (f : α → List Value) (c : Nat) (T : TypeId) (Z : α → Prop) (C : Nat) (a : Option Addr) (len cap : Nat) (w : World) (g cp : Nat) (xs : List α) (w' : World) : Prop where
  own : w'.ownsRow w.heap.size T c (.slice (some ⟨g, 0, none⟩) xs.length cp) xs.length (xs.flatMap f)
  all : ∀ x ∈ xs, Z x
  cur : Cur w' C a len cap
  grown : w.grownBy w' (some C)
variable {f : α → List Value} {c : Nat} {T : TypeId} {Z : α → Prop} {C : Nat} {a : Option Addr} {len cap : Nat} {w : World} {g cp : Nat} {xs : List α} {w' w2 : World}
theorem OwnG.lo (h : OwnG f c T Z C a len cap w g cp xs w') : w.heap.size ≤ g ∧ g < w'.heap.size := by
  rcases h.own.2 with ⟨e, _⟩ | ⟨g', cap', cur, e, hb, hh, _⟩
  · cases e
  · injection e with e; injection e with e; injection e with e1; subst e1
    exact ⟨hb, (Array.getElem?_eq_some_iff.1 hh).1⟩
theorem OwnG.draw (h : OwnG f c T Z C a len cap w g cp xs w') (hC : C < w.heap.size) (hc : Cur w2 C a len cap) (hg : w'.grownBy w2 (some C)) : OwnG f c T Z C a len cap w g cp xs w2 :=
  ⟨own_grown h.own hg (fun g hg => by intro e; injection e with e; omega), h.all, hc, grown_step h.grown hg⟩
theorem OwnG.lies (hc : ∀ x, (f x).length = c) (h : OwnG f c T Z C a len cap w g cp xs w') : Recs f w' (some ⟨g, 0, none⟩) xs := by
  rcases h.own.2 with ⟨e, _⟩ | ⟨g', cap', cur, e, hb, hh, _, _, hs, ht⟩
  · cases e
  · injection e with e; injection e with e; injection e with e1; subst e1
    intro k v hk
    have hlt := (List.getElem?_eq_some_iff.1 hk).1
    refine ⟨g, 0, rfl, ?_⟩
    rw [← ht, List.getElem?_take_of_lt (by rw [flat_length hc] at hlt; exact hlt)] at hk
    simpa [World.cell?, hh] using hk
theorem OwnG.free (h : OwnG f c T Z C a len cap w g cp xs w') (o : Nat) : w'.frozen? ⟨g, o, none⟩ = false := by
  rcases h.own.2 with ⟨e, _⟩ | ⟨g', cap', cur, e, hb, hh, _⟩
  · cases e
  · injection e with e; injection e with e; injection e with e1; subst e1
    simp [World.frozen?, hh]
theorem OwnG.block (h : OwnG f c T Z C a len cap w g cp xs w') (n k : Nat) : ∀ z, (Value.slice (some ⟨g, 0, none⟩) n k).ownBlock = some z → w.heap.size ≤ z := by
  intro z hz
  have : g = z := by simpa [Value.ownBlock] using hz
  have := h.lo
  omega
/-- More are appended. -/
theorem OwnG.more {n k : Nat} {ys : List α} {w3 : World} {g3 c3 : Nat} (h : OwnG f c T Z C a len cap w g cp xs w') (hC : C < w.heap.size) (ha : ∀ b off, a = some ⟨b, off, none⟩ → 0 < len → b < w.heap.size)
    (hx : xs.length = n) (hy : ys.length = k) (hz : ∀ y ∈ ys, Z y) (hcu : Cur w2 C a len cap) (hg2 : w.grownBy w2 (some C)) (m : Nat)
    (hown : w3.ownsRow w.heap.size T c (.slice (some ⟨g3, 0, none⟩) (n + k) c3) (n + k) (xs.flatMap f ++ ys.flatMap f)) (hgr : w2.grownBy w3 (Value.slice (some ⟨g, 0, none⟩) n m).ownBlock) :
    OwnG f c T Z C a len cap w g3 c3 (xs ++ ys) w3 :=
  ⟨by rw [List.length_append, hx, hy, List.flatMap_append]; exact hown, fun x hx => (List.mem_append.1 hx).elim (h.all x) (hz x), hcu.own hgr (h.block n m) hC ha, grown_own hg2 hgr (h.block n m)⟩
end
theorem OwnG.new {α : Type} {f : α → List Value} {c : Nat} {T : TypeId} {Z : α → Prop} {C : Nat} {a : Option Addr} {len cap : Nat} {w : World} {g cp : Nat} {xs : List α} {w' : World} (h : OwnG f c T Z C a len cap w g cp xs w') (o : Obj) : OwnG f c T Z C a len cap w g cp xs (w'.alloc o) :=
  ⟨h.own.alloc o, h.all, h.cur.kept (below_new _ _), grown_new h.grown o⟩
end Go.Proofs.YtoabpbdjffonlaaGreatDoor
