/-
  Lists of records that a draw owns: what is known between the draws.
-/
import Derived.Test.YtkdelfadmnpkhaaBoxD
import Derived.Test.YtkdelfadmnpkhaaStep
namespace Go.Proofs.Ytkdelfadmnpkhaa
open Go.ChangeShapes Go.WideShapes Go.ChangeAt Go.RowKit

section
variable {α : Type}
/-- The list xs, of the call's own, lies in block g; of each one Z holds; the cursor is right. -/
structure OwnG (f : α → List Value) (c : Nat) (T : TypeId) (Z : α → Prop) (C : Nat) (a : Option Addr) (len cap : Nat) (w : World) (g cp : Nat) (xs : List α) (w' : World) : Prop where
  own : w'.ownsRow w.heap.size T c (.slice (some ⟨g, 0, none⟩) xs.length cp) xs.length (xs.flatMap f)
  all : ∀ x ∈ xs, Z x
  cur : Cur w' C a len cap
  grown : w.grownBy w' (some C)
variable {f : α → List Value} {c : Nat} {T : TypeId} {Z : α → Prop} {C : Nat} {a : Option Addr} {len cap : Nat} {w : World} {g cp : Nat} {xs : List α} {w' w2 : World}
theorem OwnG.lo (h : OwnG f c T Z C a len cap w g cp xs w') : w.heap.size ≤ g ∧ g < w'.heap.size := by
  rcases h.own.2 with ⟨e, _⟩ | ⟨g', cap', cur, e, hb, hh, _⟩
  · cases e
  · injection e with e; injection e with e; injection e with e1; subst e1
    exact ⟨hb, (Array.getElem?_eq_some_iff.1 hh).1⟩
theorem OwnG.draw (h : OwnG f c T Z C a len cap w g cp xs w') (hC : C < w.heap.size) (hc : Cur w2 C a len cap) (hg : w'.grownBy w2 (some C)) : OwnG f c T Z C a len cap w g cp xs w2 :=
  ⟨own_grown h.own hg (fun g hg => by intro e; injection e with e; omega), h.all, hc, grown_step h.grown hg⟩
theorem OwnG.lies (hc : ∀ x, (f x).length = c) (h : OwnG f c T Z C a len cap w g cp xs w') : Recs f w' (some ⟨g, 0, none⟩) xs := by
  rcases h.own.2 with ⟨e, _⟩ | ⟨g', cap', cur, e, hb, hh, _, _, hs, ht⟩
  · cases e
  · injection e with e; injection e with e; injection e with e1; subst e1
    intro k v hk
    have hlt := (List.getElem?_eq_some_iff.1 hk).1
    refine ⟨g, 0, rfl, ?_⟩
    rw [← ht, List.getElem?_take_of_lt (by rw [flat_length hc] at hlt; exact hlt)] at hk
    simpa [World.cell?, hh] using hk
theorem OwnG.free (h : OwnG f c T Z C a len cap w g cp xs w') (o : Nat) : w'.frozen? ⟨g, o, none⟩ = false := by
  rcases h.own.2 with ⟨e, _⟩ | ⟨g', cap', cur, e, hb, hh, _⟩
  · cases e
  · injection e with e; injection e with e; injection e with e1; subst e1
    simp [World.frozen?, hh]
theorem OwnG.block (h : OwnG f c T Z C a len cap w g cp xs w') (n k : Nat) : ∀ z, (Value.slice (some ⟨g, 0, none⟩) n k).ownBlock = some z → w.heap.size ≤ z := by
  intro z hz
  have : g = z := by simpa [Value.ownBlock] using hz
  have := h.lo
  omega
/-- A literal that is cut. -/
theorem ownG_lit {w3 w4 : World} (hcl : ∀ x, (f x).length = c) (hC : C < w.heap.size) (hg3 : w.grownBy w3 (some C)) (qs : List α) (hm : qs.length ≤ 1048576) (hz : ∀ x ∈ qs, Z x)
    (hc : Cur w4 C a len cap) (hg : (w3.alloc (.cells (qs.flatMap f).toArray T)).grownBy w4 (some C)) (n : Nat) (hn : n ≤ qs.length) : OwnG f c T Z C a len cap w w3.heap.size qs.length (qs.take n) w4 := by
  have hl : (qs.take n).length = n := by simp; omega
  have ho : (w3.alloc (.cells (qs.flatMap f).toArray T)).ownsRow w.heap.size T c (.slice (some ⟨w3.heap.size, 0, none⟩) (qs.take n).length qs.length) (qs.take n).length ((qs.take n).flatMap f) := by
    refine ⟨by rw [flat_length hcl], .inr ⟨w3.heap.size, qs.length, (qs.flatMap f).toArray, rfl, hg3.size, heap_alloc_new _ _, by omega, by unfold maxLen; omega, by simp only [List.size_toArray]; exact flat_length hcl qs, ?_⟩⟩
    rw [hl, flat_take hcl]
  exact ⟨own_grown ho hg (fun g hg => by intro e; injection e with e; omega), fun x hx => hz x (List.mem_of_mem_take hx), hc, grown_step (grown_new hg3 _) hg⟩
/-- More are appended. -/
theorem OwnG.more {n k : Nat} {ys : List α} {w3 : World} {g3 c3 : Nat} (h : OwnG f c T Z C a len cap w g cp xs w') (hC : C < w.heap.size) (ha : ∀ b off, a = some ⟨b, off, none⟩ → 0 < len → b < w.heap.size)
    (hx : xs.length = n) (hy : ys.length = k) (hz : ∀ y ∈ ys, Z y) (hcu : Cur w2 C a len cap) (hg2 : w.grownBy w2 (some C)) (m : Nat)
    (hown : w3.ownsRow w.heap.size T c (.slice (some ⟨g3, 0, none⟩) (n + k) c3) (n + k) (xs.flatMap f ++ ys.flatMap f)) (hgr : w2.grownBy w3 (Value.slice (some ⟨g, 0, none⟩) n m).ownBlock) :
    OwnG f c T Z C a len cap w g3 c3 (xs ++ ys) w3 :=
  ⟨by rw [List.length_append, hx, hy, List.flatMap_append]; exact hown, fun x hx => (List.mem_append.1 hx).elim (h.all x) (hz x), hcu.own hgr (h.block n m) hC ha, grown_own hg2 hgr (h.block n m)⟩
end
theorem OwnG.new {α : Type} {f : α → List Value} {c : Nat} {T : TypeId} {Z : α → Prop} {C : Nat} {a : Option Addr} {len cap : Nat} {w : World} {g cp : Nat} {xs : List α} {w' : World} (h : OwnG f c T Z C a len cap w g cp xs w') (o : Obj) : OwnG f c T Z C a len cap w g cp xs (w'.alloc o) :=
  ⟨h.own.alloc o, h.all, h.cur.kept (below_new _ _), grown_new h.grown o⟩
/-- A call that gives back a list of its own, in a draw. -/
theorem OwnG.turn {α : Type} {f : α → List Value} {c : Nat} {T : TypeId} {Z : α → Prop} {C : Nat} {a : Option Addr} {len cap : Nat} {w : World} {g cp : Nat} {xs : List α} {w' w2 : World} {g2 c2 : Nat} {ys : List α} (h : OwnG f c T Z C a len cap w g cp xs w') (ho : w2.ownsRow w'.heap.size T c (.slice (some ⟨g2, 0, none⟩) ys.length c2) ys.length (ys.flatMap f)) (hb : Below w'.heap.size w' w2) (hz : ∀ y ∈ ys, Z y) : OwnG f c T Z C a len cap w g2 c2 ys w2 :=
  ⟨own_down ho h.grown.size, hz, h.cur.kept hb, grown_step h.grown (below_grown hb _)⟩
end Go.Proofs.Ytkdelfadmnpkhaa
