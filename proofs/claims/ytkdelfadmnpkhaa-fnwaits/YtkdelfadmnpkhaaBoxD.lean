/-
  A draw that builds one record in a block of its own and hands it back by value: what is known between the draws.
-/
import Derived.Test.YtkdelfadmnpkhaaDraw2
import Derived.Test.YtkdelfadmnpkhaaRecs
namespace Go.Proofs.Ytkdelfadmnpkhaa
open Go.ChangeShapes Go.WideShapes Go.ChangeAt Go.RowKit

theorem grown_undraw {W w2 : World} {n : Nat} {row : Option Nat} (h : (W.drewN n).grownBy w2 row) : W.grownBy w2 row := ⟨h.os, h.tape, h.output, h.size, h.block⟩
theorem undrew {W w2 : World} {row : Option Nat} (h : W.drew.grownBy w2 row) : W.grownBy w2 row := ⟨h.os, h.tape, h.output, h.size, h.block⟩

/-- Block M holds vs, block R has room for the answer; the cursor is right; nothing else has turned. -/
structure Box (w : World) (C : Nat) (a : Option Addr) (len cap : Nat) (R M c : Nat) (vs : List Value) (wk : World) : Prop where
  is : ∀ j v, vs[j]? = some v → wk.cell? ⟨M, j, none⟩ = some v
  fm : ∀ o, wk.frozen? ⟨M, o, none⟩ = false
  room : Mine wk R 0 c
  cur : Cur wk C a len cap
  grown : w.grownBy wk (some C)
  rlo : w.heap.size ≤ R
  rhi : R < wk.heap.size
  mlo : w.heap.size ≤ M
  mhi : M < wk.heap.size
  ne : R ≠ M
section
variable {w wk w2 : World} {C : Nat} {a : Option Addr} {len cap R M c : Nat} {vs : List Value}
theorem Box.draw (h : Box w C a len cap R M c vs wk) (hC : C < w.heap.size) (hc : Cur w2 C a len cap) (hg : wk.grownBy w2 (some C)) : Box w C a len cap R M c vs w2 where
  is := fun j v hj => by
    have := h.mlo
    exact kept_cell hg (h.is j v hj) (by omega)
  fm := fun o => by
    have h1 := h.mlo
    rw [World.frozen?_of_block (hg.block M h.mhi (by intro e; injection e with e; omega))]; exact h.fm o
  room := h.room.grown h.rhi hg (by have := h.rlo; intro e; injection e with e; omega)
  cur := hc
  grown := grown_step h.grown hg
  rlo := h.rlo
  rhi := Nat.lt_of_lt_of_le h.rhi hg.size
  mlo := h.mlo
  mhi := Nat.lt_of_lt_of_le h.mhi hg.size
  ne := h.ne
/-- A block of the call's own turns. -/
theorem cur_set (hcu : Cur wk C a len cap) (hgr : w.grownBy wk (some C)) (hC : C < w.heap.size) (ha : ∀ b off, a = some ⟨b, off, none⟩ → 0 < len → b < w.heap.size) {B o : Nat} (hB : w.heap.size ≤ B) (v : Value) :
    Cur (wk.setCell ⟨B, o, none⟩ v) C a len cap ∧ w.grownBy (wk.setCell ⟨B, o, none⟩ v) (some C) := by
  have hg : wk.grownBy (wk.setCell ⟨B, o, none⟩ v) (some B) := gset (gid _ _) v
  exact ⟨hcu.own (B := w.heap.size) hg (fun g e => by injection e with e; omega) hC ha, grown_own hgr hg (fun g e => by injection e with e; omega)⟩
theorem Box.set (h : Box w C a len cap R M c vs wk) (hC : C < w.heap.size) (ha : ∀ b off, a = some ⟨b, off, none⟩ → 0 < len → b < w.heap.size) (j : Nat) (v : Value) : Box w C a len cap R M c (vs.set j v) (wk.setCell ⟨M, j, none⟩ v) where
  is := fun k u hk => by
    have hkl : k < vs.length := by have := (List.getElem?_eq_some_iff.1 hk).1; simpa using this
    have hc := h.is k vs[k] (List.getElem?_eq_getElem hkl)
    by_cases e : j = k
    · subst e
      rw [List.getElem?_set_self hkl] at hk
      injection hk with hk; subst hk
      rw [World.cell?_setCell_same _ _ _ hc]
    · rw [List.getElem?_set_ne e, List.getElem?_eq_getElem hkl] at hk
      injection hk with hk; subst hk
      rw [World.cell?_setCell_other _ _ _ _ (by intro q; injection q with _ q; exact e (by omega))]
      exact hc
  fm := fun o => by have := h.fm o; go_simp
  room := h.room.grown h.rhi (gset (gid _ _) v) (by have := h.ne; intro e; injection e with e; omega)
  cur := (cur_set h.cur h.grown hC ha h.mlo v).1
  grown := (cur_set h.cur h.grown hC ha h.mlo v).2
  rlo := h.rlo
  rhi := by have := h.rhi; simpa [World.setCell] using this
  mlo := h.mlo
  mhi := by have := h.mhi; simpa [World.setCell] using this
  ne := h.ne
theorem Box.below (h : Box w C a len cap R M c vs wk) (hb : Below wk.heap.size wk w2) : Box w C a len cap R M c vs w2 where
  is := fun j v hj => by rw [hb.cell (p := ⟨M, j, none⟩) h.mhi]; exact h.is j v hj
  fm := fun o => by rw [hb.frozen (p := ⟨M, o, none⟩) h.mhi]; exact h.fm o
  room := h.room.below h.rhi hb
  cur := h.cur.kept hb
  grown := gbelow h.grown hb
  rlo := h.rlo
  rhi := Nat.lt_of_lt_of_le h.rhi hb.size
  mlo := h.mlo
  mhi := Nat.lt_of_lt_of_le h.mhi hb.size
  ne := h.ne
/-- The record is laid. -/
theorem Box.new (hR : Mine wk R 0 c) (hr1 : w.heap.size ≤ R) (hr2 : R < wk.heap.size) (hcu : Cur wk C a len cap) (hgr : w.grownBy wk (some C)) (vs : List Value) (T : TypeId) :
    Box w C a len cap R wk.heap.size c vs (wk.alloc (.cells vs.toArray T)) where
  is := fun j v hj => by simp only [World.cell?, heap_alloc_new]; simpa using hj
  fm := free_new _ _ _
  room := hR.below hr2 (below_new _ _)
  cur := hcu.kept (below_new _ _)
  grown := grown_new hgr _
  rlo := hr1
  rhi := by simp; omega
  mlo := hgr.size
  mhi := by simp
  ne := by omega
end
end Go.Proofs.Ytkdelfadmnpkhaa
