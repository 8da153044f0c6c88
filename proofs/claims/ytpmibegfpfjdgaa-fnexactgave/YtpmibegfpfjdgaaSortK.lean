/-
  A row of records of the call's own that the library sorts: from what append leaves to what the sort asks, and back.
-/
import Derived.Test.YtpmibegfpfjdgaaStep
import Derived.Shelf.SlSortCmp.NoneTotal
namespace Go.Proofs.Ytpmibegfpfjdgaa
open Go.ChangeShapes Go.WideShapes Go.ChangeAt Go.RowKit
open Go.Sort

section
variable {α : Type} [Inhabited α] {f : α → List Value} {c : Nat}
theorem flatK_at (hc : ∀ x, (f x).length = c) (xs : List α) (t : Nat) (ht : t < xs.length * c) : (xs.flatMap f)[t]? = some (flatK f c xs.toArray)[t]! := by
  have hc0 : 0 < c := by
    rcases Nat.eq_zero_or_pos c with e | e
    · subst e; simp at ht
    · exact e
  have hk : t / c < xs.length := Nat.div_lt_of_lt_mul (by rw [Nat.mul_comm]; exact ht)
  have hj : t % c < c := Nat.mod_lt _ hc0
  have e := flat_at hc xs (t / c) (t % c) hk hj
  rw [Nat.div_add_mod'] at e
  rw [e, get_flatK _ _ _ _ (by simpa using ht)]
  have h1 : xs.toArray[t / c]! = xs[t / c] := by simp [hk]
  rw [h1]
  have hl : t % c < (f xs[t / c]).length := by rw [hc]; exact hj
  rw [List.getElem?_eq_getElem hl]
  simp [hl]
theorem row_holds (hc : ∀ x, (f x).length = c) {W : World} {base g cap : Nat} {T : TypeId} {xs : List α} (ho : W.ownsRow base T c (.slice (some ⟨g, 0, none⟩) xs.length cap) xs.length (xs.flatMap f)) : HoldsK f c W g 0 xs.toArray := by
  rcases ho.2 with ⟨h0, -⟩ | ⟨g', cap', cur, hv, hg, hh, hle, hm, hs, ht⟩
  · simp at h0
  · injection hv with e1 e2 e3
    injection e1 with e1
    injection e1 with e1
    subst e1
    intro j hj
    have hj' : j < xs.length * c := by simpa using hj
    refine ⟨?_, by simp [World.frozen?, hh]⟩
    have h1 := flatK_at hc xs j hj'
    rw [← ht, List.getElem?_take_of_lt hj'] at h1
    simp only [World.cell?, hh, Nat.zero_add]
    simpa using h1
theorem sorted_block {W : World} {g n : Nat} {os : Array Obj} {cur : Array Value} {T : TypeId} {fr : Nat × Nat} (d : Array α) (hh : W.heap[g]? = some (.cells cur T fr)) :
    (sortWorldK f c W g 0 n d os).heap[g]? = some (.cells (putCells id 0 (flatK f c d) cur) T fr) := by
  have hg : g < W.heap.size := (Array.getElem?_eq_some_iff.1 hh).1
  unfold sortWorldK
  rw [heap_grow_old _ _ (by simpa [putRowK, putRow, mapBlock, Go.Sort.ahead] using hg)]
  simp [putRowK, putRow, mapBlock, Go.Sort.ahead, Array.getElem?_modify, hh, onCells]
theorem sorted_grown {W : World} {g n : Nat} {os : Array Obj} (d : Array α) : W.grownBy (sortWorldK f c W g 0 n d os) (some g) := by
  refine ⟨rfl, rfl, rfl, by simp [sortWorldK, putRowK, putRow, mapBlock, Go.Sort.ahead, Go.Sort.grow], fun k hk hne => ?_⟩
  have hgk : g ≠ k := fun e => hne (by rw [e])
  unfold sortWorldK
  rw [heap_grow_old _ _ (by simpa [putRowK, putRow, mapBlock, Go.Sort.ahead] using hk)]
  simp [putRowK, putRow, mapBlock, Go.Sort.ahead, Array.getElem?_modify, hgk]
theorem sorted_row (hc : ∀ x, (f x).length = c) {W : World} {base g cap n : Nat} {T : TypeId} {os : Array Obj} {xs ys : List α} (ho : W.ownsRow base T c (.slice (some ⟨g, 0, none⟩) xs.length cap) xs.length (xs.flatMap f)) (hl : ys.length = xs.length) :
    (sortWorldK f c W g 0 n ys.toArray os).ownsRow base T c (.slice (some ⟨g, 0, none⟩) ys.length cap) ys.length (ys.flatMap f) := by
  rcases ho.2 with ⟨h0, -⟩ | ⟨g', cap', cur, hv, hg, hh, hle, hm, hs, ht⟩
  · simp at h0
  · injection hv with e1 e2 e3
    injection e1 with e1
    injection e1 with e1
    subst e1; subst e3
    have hcs : xs.length * c ≤ cur.size := by
      have := congrArg List.length ht
      rw [List.length_take, flat_length hc] at this
      simp at this; omega
    refine ⟨by rw [flat_length hc], .inr ⟨g, cap, _, rfl, hg, sorted_block _ hh, by omega, hm, by simpa [putCells] using hs, ?_⟩⟩
    apply List.ext_getElem?
    intro j
    by_cases hj : j < ys.length * c
    · rw [List.getElem?_take_of_lt hj, Array.getElem?_toList, flatK_at hc ys j hj]
      have h2 : j < cur.size := by rw [hl] at hj; omega
      simp only [putCells, Array.getElem?_mapIdx, Array.getElem?_eq_getElem h2, Option.map_some]
      rw [if_pos ⟨Nat.zero_le _, by rw [size_flatK]; simpa using hj⟩]
      rfl
    · rw [List.getElem?_take_eq_none (by omega), List.getElem?_eq_none (by rw [flat_length hc]; omega)]
end
end Go.Proofs.Ytpmibegfpfjdgaa
