/-
  Records among a law's arguments, one by value or a list of them: what came in can be read as records.
-/
import Derived.Test.YtkdelfadmnpkhaaRecs
import Derived.Test.YtkdelfadmnpkhaaArgStrs
import Derived.Deep.Slices
import Derived.Deep.Fields
namespace Go.Proofs.Ytkdelfadmnpkhaa
open Go.ChangeShapes Go.WideShapes Go.ChangeAt Go.RowKit

section
variable {H : Type} {enc : TypeId × Value → H} {W : World}

set_option maxRecDepth 100000 in
/-- A record whose fields are of one cell each: each cell reads by its field's type. -/
theorem rec_fields {P : Program} {t : TypeId} {fs : Array Field} {fuel : Nat} {cs : List Value} {x : DataW H × List MemPlace} (hs : P.underlying t = some (.struct fs)) (hone : Go.Deep.oneCellFields P fs = true) (hC : P.cellsOf t = fs.size)
    (h : DataW.trod enc P W 0 (fun _ => true) true fuel t cs = some x) :
    cs.length = fs.size ∧ ∃ n, ∀ (j : Nat) (f : Field), fs[j]? = some f → ∃ v y, cs[j]? = some v ∧ DataW.trod enc P W 0 (fun _ => true) true n f.type [v] = some y := by
  obtain ⟨xs, n, _, _, hl, hxl, hf⟩ := DataW.trod_struct hs h
  rw [hC] at hl
  refine ⟨hl, n, fun j f hj => ?_⟩
  obtain ⟨ho, hk⟩ := Go.Deep.hone_of hone j f hj
  have hjl : j < fs.size := (Array.getElem?_eq_some_iff.1 hj).1
  have hjc : j < cs.length := by omega
  have hjx : j < xs.length := by omega
  have h1 := hf j f hj
  rw [ho, hk, List.drop_eq_getElem_cons hjc, List.take_succ_cons, List.take_zero] at h1
  exact ⟨cs[j], xs[j], List.getElem?_eq_getElem hjc, by rw [h1]; exact List.getElem?_eq_getElem hjx⟩

set_option maxRecDepth 100000 in
theorem list_choose {α : Type} {Q : Nat → α → Prop} : ∀ (n : Nat), (∀ i, i < n → ∃ x, Q i x) → ∃ xs : List α, xs.length = n ∧ ∀ k (h : k < xs.length), Q k xs[k]
  | 0, _ => ⟨[], rfl, fun k h => by simp at h⟩
  | n + 1, h => by
    obtain ⟨xs, hl, hq⟩ := list_choose n (fun i hi => h i (by omega))
    obtain ⟨x, hx⟩ := h n (by omega)
    refine ⟨xs ++ [x], by simp [hl], fun k hk => ?_⟩
    by_cases e : k < xs.length
    · rw [List.getElem_append_left e]; exact hq k e
    · have : k = xs.length := by simp at hk; omega
      subst this
      rw [List.getElem_append_right (Nat.le_refl _)]
      simp only [Nat.sub_self, List.getElem_cons_zero, hl]
      exact hx

set_option maxRecDepth 100000 in
/-- A list of records. -/
theorem arg_recs {α : Type} {f : α → List Value} {c : Nat} {Z : α → Prop} {P : Program} {t e : TypeId} {r : Reach} {b0 : Nat} {v : Value} {d : DataW H} {p : List MemPlace}
    (ht : P.underlying t = some (.slice e)) (hC : P.cellsOf e = c) (hc : ∀ x, (f x).length = c) (h0 : 0 < c)
    (each : ∀ fuel cs x, DataW.trod enc P W 0 (fun _ => true) true fuel e cs = some x → ∃ r : α, cs = f r ∧ Z r)
    (hv : Value.okWide P W r b0 t v) (h : DataW.Trod enc P W 0 (fun _ => true) true t v d p) :
    ∃ a cap xs, v = .slice a xs.length cap ∧ Recs f W a xs ∧ xs.length ≤ 9223372036854775807 ∧ ∀ x ∈ xs, Z x := by
  obtain ⟨a0, len, cap, rfl⟩ := okWide_slice ht hv
  obtain ⟨fuel, hf⟩ := h
  rcases Go.Deep.open_slice ht hf with ⟨hcs, _⟩ | ⟨ad, l, cc, m, n, D, Pl, hcs, _, hl, hm, hmm, _, hi⟩
  · simp [Value.cells] at hcs
    obtain ⟨rfl, rfl, rfl⟩ := hcs
    exact ⟨none, 0, [], rfl, Lies.nil _ _, by simp, by simp⟩
  · simp [Value.cells] at hcs
    obtain ⟨rfl, rfl, rfl⟩ := hcs
    simp only [if_true] at hmm
    subst hmm
    have hall : ∀ i, i < len → ∃ x : α, (∀ j v, (f x)[j]? = some v → W.cell? (ad.add (i * c + j)) = some v) ∧ Z x := by
      intro i hlt
      obtain ⟨cs', hcells, htr⟩ := hi i (by omega)
      obtain ⟨x, rfl, hz⟩ := each _ _ _ htr
      obtain ⟨_, hlen, hat⟩ := World.cells?_some hcells
      refine ⟨x, fun j v hj => ?_, hz⟩
      have hjl : j < P.cellsOf e := by rw [← hlen]; exact (List.getElem?_eq_some_iff.1 hj).1
      have := hat j hjl
      rw [hj, hC, Go.Deep.add_add] at this
      exact this
    obtain ⟨xs, hxl, hxs⟩ := list_choose len hall
    refine ⟨some ad, m, xs, by rw [hxl], ?_, ?_, ?_⟩
    · obtain ⟨b, off, spot⟩ := ad
      by_cases hpos : 0 < len
      · have hk0 : 0 < xs.length := by omega
        have hfl : 0 < (f xs[0]).length := by rw [hc]; exact h0
        have hc0 := (hxs 0 hk0).1 0 (f xs[0])[0] (List.getElem?_eq_getElem hfl)
        have hspot : spot = none := by simpa [Addr.add] using World.cell?_spot hc0
        subst hspot
        refine Recs.mk hc fun k hk j v hj => ?_
        have := (hxs k hk).1 j v hj
        rw [Go.WideShapes.add_plain] at this
        exact this
      · have : xs = [] := List.eq_nil_of_length_eq_zero (by omega)
        subst this
        exact Lies.nil _ _
    · rw [hxl]; unfold maxLen at hm; omega
    · intro x hx
      obtain ⟨k, hk, rfl⟩ := List.getElem_of_mem hx
      exact (hxs k hk).2

set_option maxRecDepth 100000 in
/-- A record by value. -/
theorem arg_rec {α : Type} {f : α → List Value} {Z : α → Prop} {P : Program} {t : TypeId} {fs : Array Field} {r : Reach} {b0 : Nat} {v : Value} {d : DataW H} {p : List MemPlace}
    (ht : P.underlying t = some (.struct fs)) (each : ∀ fuel cs x, DataW.trod enc P W 0 (fun _ => true) true fuel t cs = some x → ∃ r : α, cs = f r ∧ Z r)
    (hv : Value.okWide P W r b0 t v) (h : DataW.Trod enc P W 0 (fun _ => true) true t v d p) : ∃ x, v = .agg (f x).toArray ∧ Z x := by
  obtain ⟨cs, rfl, hsz⟩ := okWide_struct ht hv
  obtain ⟨fuel, hf⟩ := h
  obtain ⟨x, e, hz⟩ := each _ _ _ hf
  refine ⟨x, ?_, hz⟩
  rw [← e]
  simp [Value.cells]
end
end Go.Proofs.Ytkdelfadmnpkhaa
