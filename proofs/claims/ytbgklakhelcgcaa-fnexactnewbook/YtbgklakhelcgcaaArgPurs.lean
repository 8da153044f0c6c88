/-
  A list of purses among a law's arguments: what came in can be read as purses.
-/
import Derived.Test.YtbgklakhelcgcaaPurs
import Derived.Test.YtbgklakhelcgcaaArgStrs
import Derived.Deep.SlicePairs
namespace Go.Proofs.Ytbgklakhelcgcaa
open Go.ChangeShapes Go.WideShapes Go.ChangeAt Go.RowKit

set_option maxRecDepth 100000 in
theorem list_of (n : Nat) (f : Nat → Pur) : ∃ ps : List Pur, ps.length = n ∧ ∀ k (h : k < ps.length), ps[k] = f k :=
  ⟨(List.range n).map f, by simp, fun k h => by simp⟩

set_option maxRecDepth 100000 in
theorem pcells_cases : ∀ (ps : List Pur) (j : Nat) (v : Value), (pcells ps)[j]? = some v → ∃ k, ∃ h : k < ps.length, (j = k * 2 ∧ v = .string ps[k].name) ∨ (j = k * 2 + 1 ∧ v = .int .i64 ps[k].free)
  | [], j, v, h => by simp [pcells] at h
  | p :: r, 0, v, h => ⟨0, by simp, .inl ⟨rfl, by simpa [pcells] using h.symm⟩⟩
  | p :: r, 1, v, h => ⟨0, by simp, .inr ⟨rfl, by simpa [pcells] using h.symm⟩⟩
  | p :: r, j + 2, v, h => by
    obtain ⟨k, hk, hh⟩ := pcells_cases r j v (by simpa [pcells] using h)
    refine ⟨k + 1, by simpa using hk, ?_⟩
    rcases hh with ⟨rfl, rfl⟩ | ⟨rfl, rfl⟩
    · exact .inl ⟨by omega, by simp⟩
    · exact .inr ⟨by omega, by simp⟩

set_option maxRecDepth 100000 in
theorem purs_mk {w : World} {b off : Nat} {ps : List Pur} (h : ∀ k (h : k < ps.length), w.cell? ⟨b, off + k * 2, none⟩ = some (.string ps[k].name) ∧ w.cell? ⟨b, off + (k * 2 + 1), none⟩ = some (.int .i64 ps[k].free)) : Purs w (some ⟨b, off, none⟩) ps := by
  intro j v hj
  obtain ⟨k, hk, hh⟩ := pcells_cases ps j v hj
  refine ⟨b, off, rfl, ?_⟩
  rcases hh with ⟨rfl, rfl⟩ | ⟨rfl, rfl⟩
  · exact (h k hk).1
  · exact (h k hk).2

set_option maxRecDepth 100000 in
theorem arg_purs {H : Type} {enc : TypeId × Value → H} {W : World} {r : Reach} {base : Nat} {v : Value} {d : DataW H} {p : List MemPlace}
    (hv : Value.okWide Try.prog W r base 22 v) (h : DataW.Trod enc Try.prog W 0 (fun _ => true) true 22 v d p) :
    ∃ a cap ps, v = .slice a ps.length cap ∧ Purs W a ps ∧ ps.length ≤ 9223372036854775807 ∧ ∀ p ∈ ps, p.name.size ≤ 9223372036854775807 := by
  obtain ⟨a0, len, cap, rfl⟩ := okWide_slice Try.underlying22 hv
  obtain ⟨fuel, hf⟩ := h
  rcases Go.Deep.open_slice_pairs Try.underlying22 Try.underlying40 (by kernel_rfl) rfl rfl (by kernel_rfl) (by kernel_rfl) hf with ⟨hcs, _⟩ | ⟨x, l, c, m, n, V0, V1, D0, D1, P0, P1, hcs, _, hl, hm, hmm, _, hi⟩
  · simp [Value.cells] at hcs
    obtain ⟨rfl, rfl, rfl⟩ := hcs
    exact ⟨none, 0, [], rfl, Lies.nil _ _, by simp, by simp⟩
  · simp [Value.cells] at hcs
    obtain ⟨rfl, rfl, rfl⟩ := hcs
    simp only [if_true] at hmm
    subst hmm
    have hall : ∀ i, i < len → ∃ s z, V0 i = .string s ∧ V1 i = .int .i64 z ∧ s.size ≤ maxLen := by
      intro i hlt
      obtain ⟨_, _, h0, h1⟩ := hi i (by omega)
      obtain ⟨s, es, _, hs⟩ := DataW.trod_string Try.underlying9 h0
      obtain ⟨z, ez, _, _⟩ := DataW.trod_int Try.underlying2 h1
      exact ⟨s, z, by simpa using es, by simpa using ez, hs⟩
    have hch : ∃ f : Nat → Pur, ∀ i, i < len → V0 i = .string (f i).name ∧ V1 i = .int .i64 (f i).free ∧ (f i).name.size ≤ maxLen := by
      refine ⟨fun i => if hlt : i < len then ⟨(hall i hlt).choose, (hall i hlt).choose_spec.choose⟩ else ⟨ByteArray.empty, 0⟩, fun i hlt => ?_⟩
      simp only [hlt, dite_true]
      exact (hall i hlt).choose_spec.choose_spec
    obtain ⟨f, hfi⟩ := hch
    obtain ⟨ps, hlen, hps⟩ := list_of len f
    refine ⟨some x, m, ps, by rw [hlen], ?_, ?_, ?_⟩
    · obtain ⟨b, off, spot⟩ := x
      by_cases h0 : 0 < len
      · have hc0 := (hi 0 (by omega)).1
        have hspot : spot = none := by simpa [Addr.add] using World.cell?_spot hc0
        subst hspot
        refine purs_mk fun k hk => ?_
        obtain ⟨e0, e1, _, _⟩ := hi k (by omega)
        obtain ⟨g0, g1, _⟩ := hfi k (by omega)
        rw [hps k hk, ← g0, ← g1]
        rw [Go.WideShapes.add_plain] at e0 e1
        exact ⟨e0, e1⟩
      · have : ps = [] := List.eq_nil_of_length_eq_zero (by omega)
        subst this
        exact Lies.nil _ _
    · rw [hlen]; unfold maxLen at hm; omega
    · intro p hp
      obtain ⟨k, hk, rfl⟩ := List.getElem_of_mem hp
      rw [hps k hk]
      have := (hfi k (by omega)).2.2
      unfold maxLen at this; omega
end Go.Proofs.Ytbgklakhelcgcaa
