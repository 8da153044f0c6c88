/-
  Mill among a law's arguments. (Written by wip/tools/rec.py.)
-/
import Derived.Test.YtdpiepddafpceaaRecMill
import Derived.Test.YtdpiepddafpceaaArgRecs
namespace Go.Proofs.Ytdpiepddafpceaa
open Go.ChangeShapes Go.WideShapes Go.ChangeAt Go.RowKit

/-- Its strings are no longer than a machine's. -/
def Mil.fits (x : Mil) : Prop := x.name.size ≤ 9223372036854775807

theorem each_Mill {H : Type} {enc : TypeId × Value → H} {W : World} (fuel : Nat) (cs : List Value) (x : DataW H × List MemPlace) (h : DataW.trod enc Try.prog W 0 (fun _ => true) true fuel 40 cs = some x) : ∃ r : Mil, cs = r.cs ∧ r.fits := by
  obtain ⟨hl, n, hf⟩ := rec_fields Try.underlying40 (by kernel_rfl) (by kernel_rfl) h
  match cs, hl with
  | [c0, c1, c2, c3, c4], _ =>
    obtain ⟨u0, y0, e0, t0⟩ := hf 0 _ rfl
    injection e0 with e0; subst e0
    obtain ⟨v0, g0, _, s0⟩ := DataW.trod_string Try.underlying9 t0
    injection g0 with g0 _; subst g0
    obtain ⟨u1, y1, e1, t1⟩ := hf 1 _ rfl
    injection e1 with e1; subst e1
    obtain ⟨v1, g1, _, _⟩ := DataW.trod_int Try.underlying2 t1
    injection g1 with g1 _; subst g1
    obtain ⟨u2, y2, e2, t2⟩ := hf 2 _ rfl
    injection e2 with e2; subst e2
    obtain ⟨v2, g2, _, _⟩ := DataW.trod_int Try.underlying2 t2
    injection g2 with g2 _; subst g2
    obtain ⟨u3, y3, e3, t3⟩ := hf 3 _ rfl
    injection e3 with e3; subst e3
    obtain ⟨v3, g3, _, _⟩ := DataW.trod_int Try.underlying2 t3
    injection g3 with g3 _; subst g3
    obtain ⟨u4, y4, e4, t4⟩ := hf 4 _ rfl
    injection e4 with e4; subst e4
    obtain ⟨v4, g4, _⟩ := DataW.trod_bool Try.underlying4 t4
    injection g4 with g4 _; subst g4
    unfold maxLen at s0
    exact ⟨⟨v0, v1, v2, v3, v4⟩, rfl, by simp only [Mil.fits]; omega⟩

theorem arg_Mill {H : Type} {enc : TypeId × Value → H} {W : World} {r : Reach} {b0 : Nat} {v : Value} {d : DataW H} {p : List MemPlace} (hv : Value.okWide Try.prog W r b0 40 v) (h : DataW.Trod enc Try.prog W 0 (fun _ => true) true 40 v d p) :
    ∃ x : Mil, v = .agg x.cs.toArray ∧ x.fits := arg_rec Try.underlying40 each_Mill hv h

theorem arg_Mills {H : Type} {enc : TypeId × Value → H} {W : World} {r : Reach} {b0 : Nat} {v : Value} {d : DataW H} {p : List MemPlace} (hv : Value.okWide Try.prog W r b0 44 v) (h : DataW.Trod enc Try.prog W 0 (fun _ => true) true 44 v d p) :
    ∃ a cap xs, v = .slice a xs.length cap ∧ Recs Mil.cs W a xs ∧ xs.length ≤ 9223372036854775807 ∧ ∀ x ∈ xs, Mil.fits x :=
  arg_recs Try.underlying44 (by kernel_rfl) Mil.len (by omega) each_Mill hv h
end Go.Proofs.Ytdpiepddafpceaa
