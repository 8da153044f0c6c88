/-
  Marks on a book of the call's own: each list is marked, and what was marked is held.
-/
import Derived.Test.YtbgklakhelcgcaaBook
import Derived.Test.YtbgklakhelcgcaaMarkTwo
namespace Go.Proofs.Ytbgklakhelcgcaa
open Go.ChangeShapes Go.WideShapes Go.ChangeAt Go.RowKit

/-- Nothing has turned, or just the block in which that list lies. -/
def Touch (B : Nat) (a : Option Addr) (n : Nat) (w w' : World) : Prop :=
  w = w' ∨ ∃ x, a = some ⟨x, 0, none⟩ ∧ 0 < n ∧ B ≤ x ∧ x < w.heap.size ∧ w.grownBy w' (some x)
theorem Touch.below {B : Nat} {a : Option Addr} {n : Nat} {w w' : World} (h : Touch B a n w w') : Below B w w' := by
  rcases h with rfl | ⟨x, -, -, h1, h2, hg⟩
  · exact Below.refl _ _
  · exact grown_to hg h1 (by omega)
theorem Touch.size {B : Nat} {a : Option Addr} {n : Nat} {w w' : World} (h : Touch B a n w w') : w.heap.size ≤ w'.heap.size := h.below.size
theorem OwnR.touch {α : Type} {f : α → List Value} {c : Nat} {w w' : World} {B B' n : Nat} {a a2 : Option Addr} {ys : List α} (h : OwnR f c w B a2 ys) (ht : Touch B' a n w w') (ha : ApartN a a2 n ys.length) : OwnR f c w' B a2 ys := by
  rcases ht with rfl | ⟨x, e, hn, -, -, hg⟩
  · exact h
  · exact h.apart hg (fun b eb hy he => ha x b e eb hn (by cases ys with | nil => exact absurd rfl hy | cons y r => simp) he.symm)
theorem OwnP.touch {w w' : World} {B B' n : Nat} {a a2 : Option Addr} {ys : List Pur} (h : OwnP w B a2 ys) (ht : Touch B' a n w w') (ha : ApartN a a2 n ys.length) : OwnP w' B a2 ys := by
  rcases ht with rfl | ⟨x, e, hn, -, -, hg⟩
  · exact h
  rcases h.2 with rfl | ⟨b, rfl, h1, h2, hm⟩
  · exact ⟨Lies.nil _ _, .inl rfl⟩
  by_cases h0 : ys = []
  · subst h0; exact ⟨Lies.nil _ _, .inl rfl⟩
  · have hl : 0 < ys.length := by cases ys with | nil => exact absurd rfl h0 | cons y r => simp
    have hne : some b ≠ some x := by intro q; injection q with q; exact ha x b e rfl hn hl q.symm
    refine ⟨?_, .inr ⟨b, rfl, h1, Nat.lt_of_lt_of_le h2 hg.size, hm.grown h2 hg hne⟩⟩
    intro k v hk
    obtain ⟨b', off, e', hc⟩ := h.1 k v hk
    injection e' with e'; injection e' with e1 e2; subst e1; subst e2
    exact ⟨b, 0, rfl, by rw [grown_keeps hg h2 hne]; exact hc⟩
theorem length_ne {α : Type} {xs : List α} (h : xs ≠ []) : 0 < xs.length := by
  cases xs with
  | nil => exact absurd rfl h
  | cons y r => simp

/-- A number of marks. -/
def numI (k : Nat) : Int := (k : Int)
theorem numI_pos (k : Nat) : 0 ≤ numI k := by unfold numI; omega
theorem Touch.cell {B Bx o n : Nat} {a : Option Addr} {w w' : World} (h : Touch B a n w w') (hne : ∀ x, a = some ⟨x, 0, none⟩ → 0 < n → x ≠ Bx) (hlt : Bx < w.heap.size) : w'.cell? ⟨Bx, o, none⟩ = w.cell? ⟨Bx, o, none⟩ := by
  rcases h with rfl | ⟨x, e, hn, -, -, hg⟩
  · rfl
  · exact grown_keeps hg hlt (by intro q; injection q with q; exact hne x e hn q.symm)

theorem markP_step {w : World} {B : Nat} {a : Option Addr} {ps : List Pur} (cap : Nat) (h : OwnP w B a ps) (hl : ps.length ≤ 1048576) :
    Calls Try.prog 10 #[.slice a ps.length cap, .int .i64 1] w fun e w' => e = .returned (.int .i64 (numI (1 + ps.length * 2))) ∧ OwnP w' B a (pmarks 1 ps.length) ∧ Touch B a ps.length w w' := by
  by_cases h0 : ps = []
  · subst h0
    refine (mark_none a cap).mono ?_
    rintro e w' ⟨rfl, rfl⟩
    exact ⟨rfl, ⟨Lies.nil _ _, .inl rfl⟩, .inl rfl⟩
  rcases h.2 with e0 | ⟨b, rfl, h1, h2, hm⟩
  · exact absurd e0 h0
  · refine (markPurseS_any cap 1 hm h2 (by omega) (by omega)).mono ?_
    rintro e w' ⟨rfl, hw⟩
    have hlies := hw.lies (by rw [pcells_length, pmarks_length]; exact Nat.le_refl _)
    exact ⟨rfl, ⟨hlies, .inr ⟨b, rfl, h1, Nat.lt_of_lt_of_le h2 hw.grown.size, by rw [pmarks_length]; exact hw.mine⟩⟩, .inr ⟨b, rfl, length_ne h0, h1, h2, hw.grown⟩⟩

theorem heldP_step {w : World} {a : Option Addr} {n : Nat} (cap : Nat) (h : Purs w a (pmarks 1 n)) (hl : n ≤ 1048576) :
    Calls Try.prog 29 #[.slice a n cap, .int .i64 1] w fun e w' => e = .returned (.int .i64 (numI (1 + n * 2))) ∧ Below w.heap.size w w' :=
  heldPurseS_any cap 1 h (by omega) (by omega)

theorem markMill_step {w : World} {B : Nat} {a : Option Addr} {xs : List Mil} (cap k : Nat) (h : OwnR Mil.cs 5 w B a xs) (h0 : 0 < k) (hl : k + xs.length * 5 ≤ 10000000) :
    Calls Try.prog 26 #[.slice a xs.length cap, .int .i64 (numI k)] w fun e w' => e = .returned (.int .i64 (numI (k + xs.length * 5))) ∧ OwnR Mil.cs 5 w' B a (marksR Mil.mark 5 k xs.length) ∧ Touch B a xs.length w w' := by
  by_cases hn : xs = []
  · subst hn
    refine (markMillS_none a cap k).mono ?_
    rintro e w' ⟨rfl, rfl⟩
    exact ⟨by simp [numI], ⟨Lies.nil _ _, .inl rfl⟩, .inl rfl⟩
  rcases h.2 with e0 | ⟨b, rfl, h1, h2, hm⟩
  · exact absurd e0 hn
  · refine (markMillS_any cap k hm h2 h0 hl).mono ?_
    rintro e w' ⟨rfl, hw⟩
    have hlies := hw.lies (by rw [flat_length Mil.len, marksR_length]; exact Nat.le_refl _)
    exact ⟨rfl, ⟨hlies, .inr ⟨b, rfl, h1, Nat.lt_of_lt_of_le h2 hw.grown.size, by rw [marksR_length]; exact hw.mine⟩⟩, .inr ⟨b, rfl, length_ne hn, h1, h2, hw.grown⟩⟩

theorem heldMill_step {w : World} {a : Option Addr} {n : Nat} (cap k : Nat) (h : Recs Mil.cs w a (marksR Mil.mark 5 k n)) (h0 : 0 < k) (hl : k + n * 5 ≤ 10000000) :
    Calls Try.prog 30 #[.slice a n cap, .int .i64 (numI k)] w fun e w' => e = .returned (.int .i64 (numI (k + n * 5))) ∧ Below w.heap.size w w' :=
  heldMillS_any cap k h h0 hl

theorem markPart_step {w : World} {B : Nat} {a : Option Addr} {xs : List Par} (cap k : Nat) (h : OwnR Par.cs 3 w B a xs) (h0 : 0 < k) (hl : k + xs.length * 3 ≤ 10000000) :
    Calls Try.prog 27 #[.slice a xs.length cap, .int .i64 (numI k)] w fun e w' => e = .returned (.int .i64 (numI (k + xs.length * 3))) ∧ OwnR Par.cs 3 w' B a (marksR Par.mark 3 k xs.length) ∧ Touch B a xs.length w w' := by
  by_cases hn : xs = []
  · subst hn
    refine (markPartS_none a cap k).mono ?_
    rintro e w' ⟨rfl, rfl⟩
    exact ⟨by simp [numI], ⟨Lies.nil _ _, .inl rfl⟩, .inl rfl⟩
  rcases h.2 with e0 | ⟨b, rfl, h1, h2, hm⟩
  · exact absurd e0 hn
  · refine (markPartS_any cap k hm h2 h0 hl).mono ?_
    rintro e w' ⟨rfl, hw⟩
    have hlies := hw.lies (by rw [flat_length Par.len, marksR_length]; exact Nat.le_refl _)
    exact ⟨rfl, ⟨hlies, .inr ⟨b, rfl, h1, Nat.lt_of_lt_of_le h2 hw.grown.size, by rw [marksR_length]; exact hw.mine⟩⟩, .inr ⟨b, rfl, length_ne hn, h1, h2, hw.grown⟩⟩

theorem heldPart_step {w : World} {a : Option Addr} {n : Nat} (cap k : Nat) (h : Recs Par.cs w a (marksR Par.mark 3 k n)) (h0 : 0 < k) (hl : k + n * 3 ≤ 10000000) :
    Calls Try.prog 31 #[.slice a n cap, .int .i64 (numI k)] w fun e w' => e = .returned (.int .i64 (numI (k + n * 3))) ∧ Below w.heap.size w w' :=
  heldPartS_any cap k h h0 hl

theorem markWait_step {w : World} {B : Nat} {a : Option Addr} {xs : List Wai} (cap k : Nat) (h : OwnR Wai.cs 4 w B a xs) (h0 : 0 < k) (hl : k + xs.length * 4 ≤ 10000000) :
    Calls Try.prog 28 #[.slice a xs.length cap, .int .i64 (numI k)] w fun e w' => e = .returned (.int .i64 (numI (k + xs.length * 4))) ∧ OwnR Wai.cs 4 w' B a (marksR Wai.mark 4 k xs.length) ∧ Touch B a xs.length w w' := by
  by_cases hn : xs = []
  · subst hn
    refine (markWaitS_none a cap k).mono ?_
    rintro e w' ⟨rfl, rfl⟩
    exact ⟨by simp [numI], ⟨Lies.nil _ _, .inl rfl⟩, .inl rfl⟩
  rcases h.2 with e0 | ⟨b, rfl, h1, h2, hm⟩
  · exact absurd e0 hn
  · refine (markWaitS_any cap k hm h2 h0 hl).mono ?_
    rintro e w' ⟨rfl, hw⟩
    have hlies := hw.lies (by rw [flat_length Wai.len, marksR_length]; exact Nat.le_refl _)
    exact ⟨rfl, ⟨hlies, .inr ⟨b, rfl, h1, Nat.lt_of_lt_of_le h2 hw.grown.size, by rw [marksR_length]; exact hw.mine⟩⟩, .inr ⟨b, rfl, length_ne hn, h1, h2, hw.grown⟩⟩

theorem heldWait_step {w : World} {a : Option Addr} {n : Nat} (cap k : Nat) (h : Recs Wai.cs w a (marksR Wai.mark 4 k n)) (h0 : 0 < k) (hl : k + n * 4 ≤ 10000000) :
    Calls Try.prog 32 #[.slice a n cap, .int .i64 (numI k)] w fun e w' => e = .returned (.int .i64 (numI (k + n * 4))) ∧ Below w.heap.size w w' :=
  heldWaitS_any cap k h h0 hl

/-- A block holds a book's cells. -/
structure CellB (w : World) (B : Nat) (b : Bok) (s : Spots) : Prop where
  c0 : w.cell? ⟨B, 0, none⟩ = some (.int .i64 b.season)
  c1 : w.cell? ⟨B, 1, none⟩ = some (.int .i64 b.supply)
  c2 : w.cell? ⟨B, 2, none⟩ = some (.int .i64 b.burnt)
  c3 : w.cell? ⟨B, 3, none⟩ = some (.int .i64 b.pot)
  c4 : w.cell? ⟨B, 4, none⟩ = some (.slice s.fa b.folk.length s.fc)
  c5 : w.cell? ⟨B, 5, none⟩ = some (.slice s.ma b.mills.length s.mc)
  c6 : w.cell? ⟨B, 6, none⟩ = some (.slice s.pa b.parts.length s.pc)
  c7 : w.cell? ⟨B, 7, none⟩ = some (.slice s.wa b.waits.length s.wc)
theorem CellB.lt {w : World} {B : Nat} {b : Bok} {s : Spots} (h : CellB w B b s) : B < w.heap.size := at_lt h.c0
theorem CellB.keep {w w' : World} {B : Nat} {b : Bok} {s : Spots} (h : CellB w B b s) (k : ∀ o, w'.cell? ⟨B, o, none⟩ = w.cell? ⟨B, o, none⟩) : CellB w' B b s :=
  ⟨(k 0).trans h.c0, (k 1).trans h.c1, (k 2).trans h.c2, (k 3).trans h.c3, (k 4).trans h.c4, (k 5).trans h.c5, (k 6).trans h.c6, (k 7).trans h.c7⟩
theorem CellB.below {w w' : World} {B : Nat} {b : Bok} {s : Spots} (h : CellB w B b s) (hb : Below w.heap.size w w') : CellB w' B b s := h.keep fun o => hb.cell (p := ⟨B, o, none⟩) h.lt
theorem CellB.under {w w' : World} {B C : Nat} {b : Bok} {s : Spots} (h : CellB w B b s) (hb : Below C w w') (hC : B < C) : CellB w' B b s := h.keep fun o => hb.cell (p := ⟨B, o, none⟩) hC
theorem CellB.grown {w w' : World} {B x : Nat} {b : Bok} {s : Spots} (h : CellB w B b s) (hg : w.grownBy w' (some x)) (hx : x ≠ B) : CellB w' B b s := h.keep fun o => grown_keeps hg h.lt (by intro q; injection q with q; exact hx q.symm)
theorem CellB.new (w : World) (b : Bok) (s : Spots) (T : TypeId) : CellB (w.alloc (.cells #[.int .i64 b.season, .int .i64 b.supply, .int .i64 b.burnt, .int .i64 b.pot, .slice s.fa b.folk.length s.fc, .slice s.ma b.mills.length s.mc, .slice s.pa b.parts.length s.pc, .slice s.wa b.waits.length s.wc] T)) w.heap.size b s := by
  have k : ∀ (o : Nat) v, (#[.int .i64 b.season, .int .i64 b.supply, .int .i64 b.burnt, .int .i64 b.pot, .slice s.fa b.folk.length s.fc, .slice s.ma b.mills.length s.mc, .slice s.pa b.parts.length s.pc, .slice s.wa b.waits.length s.wc] : Array Value)[o]? = some v → (w.alloc (.cells #[.int .i64 b.season, .int .i64 b.supply, .int .i64 b.burnt, .int .i64 b.pot, .slice s.fa b.folk.length s.fc, .slice s.ma b.mills.length s.mc, .slice s.pa b.parts.length s.pc, .slice s.wa b.waits.length s.wc] T)).cell? ⟨w.heap.size, o, none⟩ = some v := fun o v hv => by
    simp only [World.cell?, heap_alloc_new]; exact hv
  exact ⟨k _ _ rfl, k _ _ rfl, k _ _ rfl, k _ _ rfl, k _ _ rfl, k _ _ rfl, k _ _ rfl, k _ _ rfl⟩
/-- Its lists lie below block B. -/
structure BOld (b : Bok) (s : Spots) (B : Nat) : Prop where
  folk : ∀ x off, s.fa = some ⟨x, off, none⟩ → 0 < b.folk.length → x < B
  mills : ∀ x off, s.ma = some ⟨x, off, none⟩ → 0 < b.mills.length → x < B
  parts : ∀ x off, s.pa = some ⟨x, off, none⟩ → 0 < b.parts.length → x < B
  waits : ∀ x off, s.wa = some ⟨x, off, none⟩ → 0 < b.waits.length → x < B
theorem BookAt.bold {w : World} {b : Bok} {s : Spots} (h : BookAt w b s) : BOld b s w.heap.size :=
  ⟨h.folk.old, h.mills.old Mil.len (by omega), h.parts.old Par.len (by omega), h.waits.old Wai.len (by omega)⟩
theorem BOld.mono {b : Bok} {s : Spots} {B B' : Nat} (h : BOld b s B) (hB : B ≤ B') : BOld b s B' :=
  ⟨fun x o e l => Nat.lt_of_lt_of_le (h.folk x o e l) hB, fun x o e l => Nat.lt_of_lt_of_le (h.mills x o e l) hB, fun x o e l => Nat.lt_of_lt_of_le (h.parts x o e l) hB, fun x o e l => Nat.lt_of_lt_of_le (h.waits x o e l) hB⟩
theorem BookAt.under {w w' : World} {B : Nat} {b : Bok} {s : Spots} (h : BookAt w b s) (hb : Below B w w') (ho : BOld b s B) : BookAt w' b s :=
  ⟨h.folk.under hb ho.folk, h.mills.under Mil.len hb ho.mills, h.parts.under Par.len hb ho.parts, h.waits.under Wai.len hb ho.waits⟩
theorem OwnB.grown {w w' : World} {B x : Nat} {b : Bok} {s : Spots} (h : OwnB w B b s) (hg : w.grownBy w' (some x)) (hx : x < B) : OwnB w' B b s :=
  ⟨h.folk.grown hg hx, h.mills.grown hg hx, h.parts.grown hg hx, h.waits.grown hg hx, h.fm, h.fp, h.fw, h.mp, h.mw, h.pw⟩
/-- A block in which none of its lists lies. -/
structure NotIn (b : Bok) (s : Spots) (X : Nat) : Prop where
  folk : ∀ x, s.fa = some ⟨x, 0, none⟩ → 0 < b.folk.length → x ≠ X
  mills : ∀ x, s.ma = some ⟨x, 0, none⟩ → 0 < b.mills.length → x ≠ X
  parts : ∀ x, s.pa = some ⟨x, 0, none⟩ → 0 < b.parts.length → x ≠ X
  waits : ∀ x, s.wa = some ⟨x, 0, none⟩ → 0 < b.waits.length → x ≠ X
theorem BOld.notIn {b : Bok} {s : Spots} {B X : Nat} (h : BOld b s B) (hX : B ≤ X) : NotIn b s X :=
  ⟨fun x e l => by have := h.folk x 0 e l; omega, fun x e l => by have := h.mills x 0 e l; omega, fun x e l => by have := h.parts x 0 e l; omega, fun x e l => by have := h.waits x 0 e l; omega⟩
/-- All blocks but those of its lists are as they were. -/
def Aside (b : Bok) (s : Spots) (w w' : World) : Prop := ∀ X o, X < w.heap.size → NotIn b s X → w'.cell? ⟨X, o, none⟩ = w.cell? ⟨X, o, none⟩
/-- A book of marks. -/
def Bok.marked (b : Bok) : Bok := ⟨b.season, b.supply, b.burnt, b.pot, pmarks 1 b.folk.length, marksR Mil.mark 5 (1 + b.folk.length * 2) b.mills.length, marksR Par.mark 3 (1 + b.folk.length * 2 + b.mills.length * 5) b.parts.length, marksR Wai.mark 4 (1 + b.folk.length * 2 + b.mills.length * 5 + b.parts.length * 3) b.waits.length⟩
/-- The number behind the last mark. -/
def Bok.marks (b : Bok) : Nat := 1 + b.folk.length * 2 + b.mills.length * 5 + b.parts.length * 3 + b.waits.length * 4

set_option maxHeartbeats 4000000 in
set_option maxRecDepth 100000 in
theorem markBook_any {w : World} {B : Nat} {b : Bok} {s : Spots} (h : OwnB w B b s) (hB : B ≤ w.heap.size) (hl : b.folk.length ≤ 262144) (hm : b.mills.length ≤ 262144) (hp : b.parts.length ≤ 262144) (hw : b.waits.length ≤ 262144) :
    Calls Try.prog 11 #[.agg #[.int .i64 b.season, .int .i64 b.supply, .int .i64 b.burnt, .int .i64 b.pot, .slice s.fa b.folk.length s.fc, .slice s.ma b.mills.length s.mc, .slice s.pa b.parts.length s.pc, .slice s.wa b.waits.length s.wc], .int .i64 1] w fun e w' => e = .returned (.int .i64 (numI b.marks)) ∧ OwnB w' B b.marked s ∧ Below B w w' ∧ Aside b s w w' := by
  have n1 := Lib.hid (show ∀ x, s.fa = some ⟨x, 0, none⟩ → 0 < b.folk.length → x ≠ w.heap.size from fun x e hl => by have := h.folk.1.old x 0 e hl; omega)
  have n2 := Lib.hid (show ∀ x, s.ma = some ⟨x, 0, none⟩ → 0 < b.mills.length → x ≠ w.heap.size from fun x e hl => by have := h.mills.1.old Mil.len (by omega) x 0 e hl; omega)
  have n3 := Lib.hid (show ∀ x, s.pa = some ⟨x, 0, none⟩ → 0 < b.parts.length → x ≠ w.heap.size from fun x e hl => by have := h.parts.1.old Par.len (by omega) x 0 e hl; omega)
  have O0 := Lib.hid (h.below (below_new w (.cells #[.int .i64 b.season, .int .i64 b.supply, .int .i64 b.burnt, .int .i64 b.pot, .slice s.fa b.folk.length s.fc, .slice s.ma b.mills.length s.mc, .slice s.pa b.parts.length s.pc, .slice s.wa b.waits.length s.wc] 29)))
  have X0 := Lib.hid (BoxB.new h.at 29)
  have B0 := Lib.hid (show Below B w _ from ((below_new w (.cells #[.int .i64 b.season, .int .i64 b.supply, .int .i64 b.burnt, .int .i64 b.pot, .slice s.fa b.folk.length s.fc, .slice s.ma b.mills.length s.mc, .slice s.pa b.parts.length s.pc, .slice s.wa b.waits.length s.wc] 29)).mono hB))
  have HM : Hid (b.marks = 1 + b.folk.length * 2 + b.mills.length * 5 + b.parts.length * 3 + b.waits.length * 4) := rfl
  obtain ⟨W, hW⟩ : ∃ W, w.alloc (.cells #[.int .i64 b.season, .int .i64 b.supply, .int .i64 b.burnt, .int .i64 b.pot, .slice s.fa b.folk.length s.fc, .slice s.ma b.mills.length s.mc, .slice s.pa b.parts.length s.pc, .slice s.wa b.waits.length s.wc] 29) = W := ⟨_, rfl⟩
  have K0 := Lib.hid (show Aside b s w (w.alloc (.cells #[.int .i64 b.season, .int .i64 b.supply, .int .i64 b.burnt, .int .i64 b.pot, .slice s.fa b.folk.length s.fc, .slice s.ma b.mills.length s.mc, .slice s.pa b.parts.length s.pc, .slice s.wa b.waits.length s.wc] 29)) from fun X o hX _ => (below_new w _).cell (p := ⟨X, o, none⟩) hX)
  have hle0 : w.heap.size ≤ (w.alloc (.cells #[.int .i64 b.season, .int .i64 b.supply, .int .i64 b.burnt, .int .i64 b.pot, .slice s.fa b.folk.length s.fc, .slice s.ma b.mills.length s.mc, .slice s.pa b.parts.length s.pc, .slice s.wa b.waits.length s.wc] 29)).heap.size := by simp
  rw [hW] at O0 X0 B0 K0 hle0
  clear h
  have c4 := X0.out.c4
  have hlt0 := X0.out.lt
  go_enter Try.func11, Try.ntmps11
  go_wp2_with fail
  refine (markP_step _ O0.out.folk (by omega)).mono ?_
  rintro e w1 ⟨rfl, ho1, ht1⟩
  have OF1 := Lib.hid ho1
  have OM1 := Lib.hid (O0.out.mills.touch ht1 O0.out.fm)
  have OP1 := Lib.hid (O0.out.parts.touch ht1 O0.out.fp)
  have OW1 := Lib.hid (O0.out.waits.touch ht1 O0.out.fw)
  have B1 := Lib.hid (B0.out.trans ht1.below)
  have K1 := Lib.hid (show Aside b s w w1 from fun X o hX hn => (ht1.cell hn.folk (Nat.lt_of_lt_of_le hX hle0)).trans (K0.out X o hX hn))
  have hle1 := Nat.le_trans hle0 ht1.size
  have hlt1 := Nat.lt_of_lt_of_le hlt0 ht1.size
  have c5 := (ht1.cell (o := 5) n1.out hlt0).trans X0.out.c5
  have C6 := Lib.hid ((ht1.cell (o := 6) n1.out hlt0).trans X0.out.c6)
  have C7 := Lib.hid ((ht1.cell (o := 7) n1.out hlt0).trans X0.out.c7)
  clear ho1 ht1 c4 B0
  go_wp2_with fail
  refine (markMill_step _ (1 + b.folk.length * 2) OM1.out (by omega) (by omega)).mono ?_
  rintro e w2 ⟨rfl, ho2, ht2⟩
  have OM2 := Lib.hid ho2
  have OF2 := Lib.hid (OF1.out.touch ht2 (by rw [pmarks_length]; exact O0.out.fm.symm))
  have OP2 := Lib.hid (OP1.out.touch ht2 O0.out.mp)
  have OW2 := Lib.hid (OW1.out.touch ht2 O0.out.mw)
  have B2 := Lib.hid (B1.out.trans ht2.below)
  have K2 := Lib.hid (show Aside b s w w2 from fun X o hX hn => (ht2.cell hn.mills (Nat.lt_of_lt_of_le hX hle1)).trans (K1.out X o hX hn))
  have hle2 := Nat.le_trans hle1 ht2.size
  have hlt2 := Nat.lt_of_lt_of_le hlt1 ht2.size
  have c6 := (ht2.cell (o := 6) n2.out hlt1).trans C6.out
  have D7 := Lib.hid ((ht2.cell (o := 7) n2.out hlt1).trans C7.out)
  clear ho2 ht2 c5 C6 C7 OM1 OF1 OP1 OW1 B1
  go_wp2_with fail
  refine (markPart_step _ (1 + b.folk.length * 2 + b.mills.length * 5) OP2.out (by omega) (by omega)).mono ?_
  rintro e w3 ⟨rfl, ho3, ht3⟩
  have OP3 := Lib.hid ho3
  have OF3 := Lib.hid (OF2.out.touch ht3 (by rw [pmarks_length]; exact O0.out.fp.symm))
  have OM3 := Lib.hid (OM2.out.touch ht3 (by rw [marksR_length]; exact O0.out.mp.symm))
  have OW3 := Lib.hid (OW2.out.touch ht3 O0.out.pw)
  have B3 := Lib.hid (B2.out.trans ht3.below)
  have K3 := Lib.hid (show Aside b s w w3 from fun X o hX hn => (ht3.cell hn.parts (Nat.lt_of_lt_of_le hX hle2)).trans (K2.out X o hX hn))
  have hle3 := Nat.le_trans hle2 ht3.size
  have c7 := (ht3.cell (o := 7) n3.out hlt2).trans D7.out
  clear ho3 ht3 c6 D7 OM2 OF2 OP2 OW2 B2
  go_wp2_with fail
  refine (markWait_step _ (1 + b.folk.length * 2 + b.mills.length * 5 + b.parts.length * 3) OW3.out (by omega) (by omega)).mono ?_
  rintro e w4 ⟨rfl, ho4, ht4⟩
  have HE := Lib.hid (show OwnB w4 B b.marked s from ⟨OF3.out.touch ht4 (by rw [pmarks_length]; exact O0.out.fw.symm), OM3.out.touch ht4 (by rw [marksR_length]; exact O0.out.mw.symm), OP3.out.touch ht4 (by rw [marksR_length]; exact O0.out.pw.symm), ho4,
    by simpa [Bok.marked, pmarks_length, marksR_length] using O0.out.fm, by simpa [Bok.marked, pmarks_length, marksR_length] using O0.out.fp, by simpa [Bok.marked, pmarks_length, marksR_length] using O0.out.fw, by simpa [Bok.marked, marksR_length] using O0.out.mp, by simpa [Bok.marked, marksR_length] using O0.out.mw, by simpa [Bok.marked, marksR_length] using O0.out.pw⟩)
  have B4 := Lib.hid (B3.out.trans ht4.below)
  have K4 := Lib.hid (show Aside b s w w4 from fun X o hX hn => (ht4.cell hn.waits (Nat.lt_of_lt_of_le hX hle3)).trans (K3.out X o hX hn))
  have hle4 := Nat.le_trans hle3 ht4.size
  clear ho4 ht4 c7 OM3 OF3 OP3 OW3 B3
  go_wp2
  go_ret
  exact ⟨by rw [HM.out]; rfl, HE.out, B4.out, K4.out⟩

set_option maxHeartbeats 4000000 in
set_option maxRecDepth 100000 in
theorem heldBook_any {w : World} {b : Bok} {s : Spots} (h : BookAt w b.marked s) (hl : b.folk.length ≤ 262144) (hm : b.mills.length ≤ 262144) (hp : b.parts.length ≤ 262144) (hw : b.waits.length ≤ 262144) :
    Calls Try.prog 12 #[.agg #[.int .i64 b.season, .int .i64 b.supply, .int .i64 b.burnt, .int .i64 b.pot, .slice s.fa b.folk.length s.fc, .slice s.ma b.mills.length s.mc, .slice s.pa b.parts.length s.pc, .slice s.wa b.waits.length s.wc], .int .i64 1] w fun e w' => e = .returned (.int .i64 (numI b.marks)) ∧ Below w.heap.size w w' := by
  have A0 := Lib.hid (h.below (below_new w (.cells #[.int .i64 b.season, .int .i64 b.supply, .int .i64 b.burnt, .int .i64 b.pot, .slice s.fa b.folk.length s.fc, .slice s.ma b.mills.length s.mc, .slice s.pa b.parts.length s.pc, .slice s.wa b.waits.length s.wc] 29)))
  have R0 := Lib.hid (OutV.new w (#[.int .i64 b.season, .int .i64 b.supply, .int .i64 b.burnt, .int .i64 b.pot, .slice s.fa b.folk.length s.fc, .slice s.ma b.mills.length s.mc, .slice s.pa b.parts.length s.pc, .slice s.wa b.waits.length s.wc] : Array Value).toList 29)
  have B0 := Lib.hid (below_new w (.cells #[.int .i64 b.season, .int .i64 b.supply, .int .i64 b.burnt, .int .i64 b.pot, .slice s.fa b.folk.length s.fc, .slice s.ma b.mills.length s.mc, .slice s.pa b.parts.length s.pc, .slice s.wa b.waits.length s.wc] 29))
  have HM : Hid (b.marks = 1 + b.folk.length * 2 + b.mills.length * 5 + b.parts.length * 3 + b.waits.length * 4) := rfl
  obtain ⟨W, hW⟩ : ∃ W, w.alloc (.cells #[.int .i64 b.season, .int .i64 b.supply, .int .i64 b.burnt, .int .i64 b.pot, .slice s.fa b.folk.length s.fc, .slice s.ma b.mills.length s.mc, .slice s.pa b.parts.length s.pc, .slice s.wa b.waits.length s.wc] 29) = W := ⟨_, rfl⟩
  rw [show w.alloc (.cells ((#[.int .i64 b.season, .int .i64 b.supply, .int .i64 b.burnt, .int .i64 b.pot, .slice s.fa b.folk.length s.fc, .slice s.ma b.mills.length s.mc, .slice s.pa b.parts.length s.pc, .slice s.wa b.waits.length s.wc] : Array Value).toList).toArray 29) = W from hW] at R0
  rw [hW] at A0 B0
  clear h
  have p1 := numI_pos (1 + b.folk.length * 2)
  have p2 := numI_pos (1 + b.folk.length * 2 + b.mills.length * 5)
  have p3 := numI_pos (1 + b.folk.length * 2 + b.mills.length * 5 + b.parts.length * 3)
  have p4 := numI_pos (1 + b.folk.length * 2 + b.mills.length * 5 + b.parts.length * 3 + b.waits.length * 4)
  have c4 := R0.out.has 4 _ rfl
  go_enter Try.func12, Try.ntmps12
  go_wp2_with fail
  refine (heldP_step _ A0.out.folk (by omega)).mono ?_
  rintro e w1 ⟨rfl, hb1⟩
  have A1 := Lib.hid (A0.out.below hb1)
  have R1 := Lib.hid (R0.out.below hb1)
  have B1 := Lib.hid (below_trans B0.out hb1)
  clear hb1 A0 R0 B0 c4
  have c5 := R1.out.has 5 _ rfl
  go_wp2_with fail
  refine (heldMill_step _ (1 + b.folk.length * 2) A1.out.mills (by omega) (by omega)).mono ?_
  rintro e w2 ⟨rfl, hb2⟩
  have A2 := Lib.hid (A1.out.below hb2)
  have R2 := Lib.hid (R1.out.below hb2)
  have B2 := Lib.hid (below_trans B1.out hb2)
  clear hb2 A1 R1 B1 c5
  have c6 := R2.out.has 6 _ rfl
  go_wp2_with fail
  refine (heldPart_step _ (1 + b.folk.length * 2 + b.mills.length * 5) A2.out.parts (by omega) (by omega)).mono ?_
  rintro e w3 ⟨rfl, hb3⟩
  have A3 := Lib.hid (A2.out.below hb3)
  have R3 := Lib.hid (R2.out.below hb3)
  have B3 := Lib.hid (below_trans B2.out hb3)
  clear hb3 A2 R2 B2 c6
  have c7 := R3.out.has 7 _ rfl
  go_wp2_with fail
  refine (heldWait_step _ (1 + b.folk.length * 2 + b.mills.length * 5 + b.parts.length * 3) A3.out.waits (by omega) (by omega)).mono ?_
  rintro e w4 ⟨rfl, hb4⟩
  have B4 := Lib.hid (below_trans B3.out hb4)
  clear hb4 A3 R3 B3 c7
  go_wp2
  go_ret
  exact ⟨by rw [HM.out]; rfl, B4.out⟩
end Go.Proofs.Ytbgklakhelcgcaa
