/-
  Wait among a law's arguments. (Written by wip/tools/rec.py.)
-/
import Derived.Test.YtkdelfadmnpkhaaRecWait
import Derived.Test.YtkdelfadmnpkhaaArgRecs
namespace Go.Proofs.Ytkdelfadmnpkhaa
open Go.ChangeShapes Go.WideShapes Go.ChangeAt Go.RowKit


set_option maxRecDepth 100000 in
theorem each_Wait {H : Type} {enc : TypeId × Value → H} {W : World} (fuel : Nat) (cs : List Value) (x : DataW H × List MemPlace) (h : DataW.trod enc Try.prog W 0 (fun _ => true) true fuel 48 cs = some x) : ∃ r : Wai, cs = r.cs ∧ r.fits := by
  obtain ⟨hl, n, hf⟩ := rec_fields Try.underlying48 (by kernel_rfl) (by kernel_rfl) h
  match cs, hl with
  | [c0, c1, c2, c3], _ =>
    obtain ⟨u0, y0, e0, t0⟩ := hf 0 _ rfl
    injection e0 with e0; subst e0
    obtain ⟨v0, g0, _, s0⟩ := DataW.trod_string Try.underlying9 t0
    injection g0 with g0 _; subst g0
    obtain ⟨u1, y1, e1, t1⟩ := hf 1 _ rfl
    injection e1 with e1; subst e1
    obtain ⟨v1, g1, _, s1⟩ := DataW.trod_string Try.underlying9 t1
    injection g1 with g1 _; subst g1
    obtain ⟨u2, y2, e2, t2⟩ := hf 2 _ rfl
    injection e2 with e2; subst e2
    obtain ⟨v2, g2, _, _⟩ := DataW.trod_int Try.underlying2 t2
    injection g2 with g2 _; subst g2
    obtain ⟨u3, y3, e3, t3⟩ := hf 3 _ rfl
    injection e3 with e3; subst e3
    obtain ⟨v3, g3, _, _⟩ := DataW.trod_int Try.underlying2 t3
    injection g3 with g3 _; subst g3
    unfold maxLen at s0 s1
    exact ⟨⟨v0, v1, v2, v3⟩, rfl, by simp only [Wai.fits]; omega⟩

set_option maxRecDepth 100000 in
theorem arg_Wait {H : Type} {enc : TypeId × Value → H} {W : World} {r : Reach} {b0 : Nat} {v : Value} {d : DataW H} {p : List MemPlace} (hv : Value.okWide Try.prog W r b0 48 v) (h : DataW.Trod enc Try.prog W 0 (fun _ => true) true 48 v d p) :
    ∃ x : Wai, v = .agg x.cs.toArray ∧ x.fits := arg_rec Try.underlying48 each_Wait hv h

set_option maxRecDepth 100000 in
theorem arg_Waits {H : Type} {enc : TypeId × Value → H} {W : World} {r : Reach} {b0 : Nat} {v : Value} {d : DataW H} {p : List MemPlace} (hv : Value.okWide Try.prog W r b0 44 v) (h : DataW.Trod enc Try.prog W 0 (fun _ => true) true 44 v d p) :
    ∃ a cap xs, v = .slice a xs.length cap ∧ Recs Wai.cs W a xs ∧ xs.length ≤ 9223372036854775807 ∧ ∀ x ∈ xs, Wai.fits x :=
  arg_recs Try.underlying44 (by kernel_rfl) Wai.len (by omega) each_Wait hv h
end Go.Proofs.Ytkdelfadmnpkhaa
