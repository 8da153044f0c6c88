/-
  Texts joined: ArgRecs, ArgMill, ArgPart, ArgWait, ArgBook.
-/
import Derived.Test.YtbgklakhelcgcaaGreatJ7
import Derived.Deep.Slices
import Derived.Deep.Fields
namespace Go.Proofs.YtbgklakhelcgcaaGreat
open Go.ChangeShapes Go.WideShapes Go.ChangeAt Go.RowKit

section
variable {H : Type} {enc : TypeId × Value → H} {W : World}

set_option maxRecDepth 100000 in
/-- A record whose fields are of one cell each: each cell reads by its field's type. -/
theorem rec_fields {P : Program} {t : TypeId} {fs : Array Field} {fuel : Nat} {cs : List Value} {x : DataW H × List MemPlace} (hs : P.underlying t = some (.struct fs)) (hone : Go.Deep.oneCellFields P fs = true) (hC : P.cellsOf t = fs.size)
    (h : DataW.trod enc P W 0 (fun _ => true) true fuel t cs = some x) :
    cs.length = fs.size ∧ ∃ n, ∀ (j : Nat) (f : Field), fs[j]? = some f → ∃ v y, cs[j]? = some v ∧ DataW.trod enc P W 0 (fun _ => true) true n f.type [v] = some y := by
  obtain ⟨xs, n, _, _, hl, hxl, hf⟩ := DataW.trod_struct hs h
  rw [hC] at hl
  refine ⟨hl, n, fun j f hj => ?_⟩
  obtain ⟨ho, hk⟩ := Go.Deep.hone_of hone j f hj
  have hjl : j < fs.size := (Array.getElem?_eq_some_iff.1 hj).1
  have hjc : j < cs.length := by omega
  have hjx : j < xs.length := by omega
  have h1 := hf j f hj
  rw [ho, hk, List.drop_eq_getElem_cons hjc, List.take_succ_cons, List.take_zero] at h1
  exact ⟨cs[j], xs[j], List.getElem?_eq_getElem hjc, by rw [h1]; exact List.getElem?_eq_getElem hjx⟩

set_option maxRecDepth 100000 in
theorem list_choose {α : Type} {Q : Nat → α → Prop} : ∀ (n : Nat), (∀ i, i < n → ∃ x, Q i x) → ∃ xs : List α, xs.length = n ∧ ∀ k (h : k < xs.length), Q k xs[k]
  | 0, _ => ⟨[], rfl, fun k h => by simp at h⟩
  | n + 1, h => by
    obtain ⟨xs, hl, hq⟩ := list_choose n (fun i hi => h i (by omega))
    obtain ⟨x, hx⟩ := h n (by omega)
    refine ⟨xs ++ [x], by simp [hl], fun k hk => ?_⟩
    by_cases e : k < xs.length
    · rw [List.getElem_append_left e]; exact hq k e
    · have : k = xs.length := by simp at hk; omega
      subst this
      rw [List.getElem_append_right (Nat.le_refl _)]
      simp only [Nat.sub_self, List.getElem_cons_zero, hl]
      exact hx

set_option maxRecDepth 100000 in
/-- A list of records. -/
theorem arg_recs {α : Type} {f : α → List Value} {c : Nat} {Z : α → Prop} {P : Program} {t e : TypeId} {r : Reach} {b0 : Nat} {v : Value} {d : DataW H} {p : List MemPlace}
    (ht : P.underlying t = some (.slice e)) (hC : P.cellsOf e = c) (hc : ∀ x, (f x).length = c) (h0 : 0 < c)
    (each : ∀ fuel cs x, DataW.trod enc P W 0 (fun _ => true) true fuel e cs = some x → ∃ r : α, cs = f r ∧ Z r)
    (hv : Value.okWide P W r b0 t v) (h : DataW.Trod enc P W 0 (fun _ => true) true t v d p) :
    ∃ a cap xs, v = .slice a xs.length cap ∧ Recs f W a xs ∧ xs.length ≤ 9223372036854775807 ∧ ∀ x ∈ xs, Z x := by
  obtain ⟨a0, len, cap, rfl⟩ := okWide_slice ht hv
  obtain ⟨fuel, hf⟩ := h
  rcases Go.Deep.open_slice ht hf with ⟨hcs, _⟩ | ⟨ad, l, cc, m, n, D, Pl, hcs, _, hl, hm, hmm, _, hi⟩
  · simp [Value.cells] at hcs
    obtain ⟨rfl, rfl, rfl⟩ := hcs
    exact ⟨none, 0, [], rfl, Lies.nil _ _, by simp, by simp⟩
  · simp [Value.cells] at hcs
    obtain ⟨rfl, rfl, rfl⟩ := hcs
    simp only [if_true] at hmm
    subst hmm
    have hall : ∀ i, i < len → ∃ x : α, (∀ j v, (f x)[j]? = some v → W.cell? (ad.add (i * c + j)) = some v) ∧ Z x := by
      intro i hlt
      obtain ⟨cs', hcells, htr⟩ := hi i (by omega)
      obtain ⟨x, rfl, hz⟩ := each _ _ _ htr
      obtain ⟨_, hlen, hat⟩ := World.cells?_some hcells
      refine ⟨x, fun j v hj => ?_, hz⟩
      have hjl : j < P.cellsOf e := by rw [← hlen]; exact (List.getElem?_eq_some_iff.1 hj).1
      have := hat j hjl
      rw [hj, hC, Go.Deep.add_add] at this
      exact this
    obtain ⟨xs, hxl, hxs⟩ := list_choose len hall
    refine ⟨some ad, m, xs, by rw [hxl], ?_, ?_, ?_⟩
    · obtain ⟨b, off, spot⟩ := ad
      by_cases hpos : 0 < len
      · have hk0 : 0 < xs.length := by omega
        have hfl : 0 < (f xs[0]).length := by rw [hc]; exact h0
        have hc0 := (hxs 0 hk0).1 0 (f xs[0])[0] (List.getElem?_eq_getElem hfl)
        have hspot : spot = none := by simpa [Addr.add] using World.cell?_spot hc0
        subst hspot
        refine Recs.mk hc fun k hk j v hj => ?_
        have := (hxs k hk).1 j v hj
        rw [Go.WideShapes.add_plain] at this
        exact this
      · have : xs = [] := List.eq_nil_of_length_eq_zero (by omega)
        subst this
        exact Lies.nil _ _
    · rw [hxl]; unfold maxLen at hm; omega
    · intro x hx
      obtain ⟨k, hk, rfl⟩ := List.getElem_of_mem hx
      exact (hxs k hk).2

set_option maxRecDepth 100000 in
/-- A record by value. -/
theorem arg_rec {α : Type} {f : α → List Value} {Z : α → Prop} {P : Program} {t : TypeId} {fs : Array Field} {r : Reach} {b0 : Nat} {v : Value} {d : DataW H} {p : List MemPlace}
    (ht : P.underlying t = some (.struct fs)) (each : ∀ fuel cs x, DataW.trod enc P W 0 (fun _ => true) true fuel t cs = some x → ∃ r : α, cs = f r ∧ Z r)
    (hv : Value.okWide P W r b0 t v) (h : DataW.Trod enc P W 0 (fun _ => true) true t v d p) : ∃ x, v = .agg (f x).toArray ∧ Z x := by
  obtain ⟨cs, rfl, hsz⟩ := okWide_struct ht hv
  obtain ⟨fuel, hf⟩ := h
  obtain ⟨x, e, hz⟩ := each _ _ _ hf
  refine ⟨x, ?_, hz⟩
  rw [← e]
  simp [Value.cells]
end
end Go.Proofs.YtbgklakhelcgcaaGreat
namespace Go.Proofs.YtbgklakhelcgcaaGreat
open Go.ChangeShapes Go.WideShapes Go.ChangeAt Go.RowKit


set_option maxRecDepth 100000 in
theorem each_Mill {H : Type} {enc : TypeId × Value → H} {W : World} (fuel : Nat) (cs : List Value) (x : DataW H × List MemPlace) (h : DataW.trod enc Tryz.prog W 0 (fun _ => true) true fuel 81 cs = some x) : ∃ r : Mil, cs = r.cs ∧ r.fits := by
  obtain ⟨hl, n, hf⟩ := rec_fields Tryz.underlying81 (by kernel_rfl) (by kernel_rfl) h
  match cs, hl with
  | [c0, c1, c2, c3, c4], _ =>
    obtain ⟨u0, y0, e0, t0⟩ := hf 0 _ rfl
    injection e0 with e0; subst e0
    obtain ⟨v0, g0, _, s0⟩ := DataW.trod_string Tryz.underlying9 t0
    injection g0 with g0 _; subst g0
    obtain ⟨u1, y1, e1, t1⟩ := hf 1 _ rfl
    injection e1 with e1; subst e1
    obtain ⟨v1, g1, _, _⟩ := DataW.trod_int Tryz.underlying2 t1
    injection g1 with g1 _; subst g1
    obtain ⟨u2, y2, e2, t2⟩ := hf 2 _ rfl
    injection e2 with e2; subst e2
    obtain ⟨v2, g2, _, _⟩ := DataW.trod_int Tryz.underlying2 t2
    injection g2 with g2 _; subst g2
    obtain ⟨u3, y3, e3, t3⟩ := hf 3 _ rfl
    injection e3 with e3; subst e3
    obtain ⟨v3, g3, _, _⟩ := DataW.trod_int Tryz.underlying2 t3
    injection g3 with g3 _; subst g3
    obtain ⟨u4, y4, e4, t4⟩ := hf 4 _ rfl
    injection e4 with e4; subst e4
    obtain ⟨v4, g4, _⟩ := DataW.trod_bool Tryz.underlying4 t4
    injection g4 with g4 _; subst g4
    unfold maxLen at s0
    exact ⟨⟨v0, v1, v2, v3, v4⟩, rfl, by simp only [Mil.fits]; omega⟩

set_option maxRecDepth 100000 in
theorem arg_Mill {H : Type} {enc : TypeId × Value → H} {W : World} {r : Reach} {b0 : Nat} {v : Value} {d : DataW H} {p : List MemPlace} (hv : Value.okWide Tryz.prog W r b0 81 v) (h : DataW.Trod enc Tryz.prog W 0 (fun _ => true) true 81 v d p) :
    ∃ x : Mil, v = .agg x.cs.toArray ∧ x.fits := arg_rec Tryz.underlying81 each_Mill hv h

set_option maxRecDepth 100000 in
theorem arg_Mills {H : Type} {enc : TypeId × Value → H} {W : World} {r : Reach} {b0 : Nat} {v : Value} {d : DataW H} {p : List MemPlace} (hv : Value.okWide Tryz.prog W r b0 23 v) (h : DataW.Trod enc Tryz.prog W 0 (fun _ => true) true 23 v d p) :
    ∃ a cap xs, v = .slice a xs.length cap ∧ Recs Mil.cs W a xs ∧ xs.length ≤ 9223372036854775807 ∧ ∀ x ∈ xs, Mil.fits x :=
  arg_recs Tryz.underlying23 (by kernel_rfl) Mil.len (by omega) each_Mill hv h
end Go.Proofs.YtbgklakhelcgcaaGreat
namespace Go.Proofs.YtbgklakhelcgcaaGreat
open Go.ChangeShapes Go.WideShapes Go.ChangeAt Go.RowKit


set_option maxRecDepth 100000 in
theorem each_Part {H : Type} {enc : TypeId × Value → H} {W : World} (fuel : Nat) (cs : List Value) (x : DataW H × List MemPlace) (h : DataW.trod enc Tryz.prog W 0 (fun _ => true) true fuel 83 cs = some x) : ∃ r : Par, cs = r.cs ∧ r.fits := by
  obtain ⟨hl, n, hf⟩ := rec_fields Tryz.underlying83 (by kernel_rfl) (by kernel_rfl) h
  match cs, hl with
  | [c0, c1, c2], _ =>
    obtain ⟨u0, y0, e0, t0⟩ := hf 0 _ rfl
    injection e0 with e0; subst e0
    obtain ⟨v0, g0, _, s0⟩ := DataW.trod_string Tryz.underlying9 t0
    injection g0 with g0 _; subst g0
    obtain ⟨u1, y1, e1, t1⟩ := hf 1 _ rfl
    injection e1 with e1; subst e1
    obtain ⟨v1, g1, _, s1⟩ := DataW.trod_string Tryz.underlying9 t1
    injection g1 with g1 _; subst g1
    obtain ⟨u2, y2, e2, t2⟩ := hf 2 _ rfl
    injection e2 with e2; subst e2
    obtain ⟨v2, g2, _, _⟩ := DataW.trod_int Tryz.underlying2 t2
    injection g2 with g2 _; subst g2
    unfold maxLen at s0 s1
    exact ⟨⟨v0, v1, v2⟩, rfl, by simp only [Par.fits]; omega⟩

set_option maxRecDepth 100000 in
theorem arg_Part {H : Type} {enc : TypeId × Value → H} {W : World} {r : Reach} {b0 : Nat} {v : Value} {d : DataW H} {p : List MemPlace} (hv : Value.okWide Tryz.prog W r b0 83 v) (h : DataW.Trod enc Tryz.prog W 0 (fun _ => true) true 83 v d p) :
    ∃ x : Par, v = .agg x.cs.toArray ∧ x.fits := arg_rec Tryz.underlying83 each_Part hv h

set_option maxRecDepth 100000 in
theorem arg_Parts {H : Type} {enc : TypeId × Value → H} {W : World} {r : Reach} {b0 : Nat} {v : Value} {d : DataW H} {p : List MemPlace} (hv : Value.okWide Tryz.prog W r b0 24 v) (h : DataW.Trod enc Tryz.prog W 0 (fun _ => true) true 24 v d p) :
    ∃ a cap xs, v = .slice a xs.length cap ∧ Recs Par.cs W a xs ∧ xs.length ≤ 9223372036854775807 ∧ ∀ x ∈ xs, Par.fits x :=
  arg_recs Tryz.underlying24 (by kernel_rfl) Par.len (by omega) each_Part hv h
end Go.Proofs.YtbgklakhelcgcaaGreat
namespace Go.Proofs.YtbgklakhelcgcaaGreat
open Go.ChangeShapes Go.WideShapes Go.ChangeAt Go.RowKit


set_option maxRecDepth 100000 in
theorem each_Wait {H : Type} {enc : TypeId × Value → H} {W : World} (fuel : Nat) (cs : List Value) (x : DataW H × List MemPlace) (h : DataW.trod enc Tryz.prog W 0 (fun _ => true) true fuel 85 cs = some x) : ∃ r : Wai, cs = r.cs ∧ r.fits := by
  obtain ⟨hl, n, hf⟩ := rec_fields Tryz.underlying85 (by kernel_rfl) (by kernel_rfl) h
  match cs, hl with
  | [c0, c1, c2, c3], _ =>
    obtain ⟨u0, y0, e0, t0⟩ := hf 0 _ rfl
    injection e0 with e0; subst e0
    obtain ⟨v0, g0, _, s0⟩ := DataW.trod_string Tryz.underlying9 t0
    injection g0 with g0 _; subst g0
    obtain ⟨u1, y1, e1, t1⟩ := hf 1 _ rfl
    injection e1 with e1; subst e1
    obtain ⟨v1, g1, _, s1⟩ := DataW.trod_string Tryz.underlying9 t1
    injection g1 with g1 _; subst g1
    obtain ⟨u2, y2, e2, t2⟩ := hf 2 _ rfl
    injection e2 with e2; subst e2
    obtain ⟨v2, g2, _, _⟩ := DataW.trod_int Tryz.underlying2 t2
    injection g2 with g2 _; subst g2
    obtain ⟨u3, y3, e3, t3⟩ := hf 3 _ rfl
    injection e3 with e3; subst e3
    obtain ⟨v3, g3, _, _⟩ := DataW.trod_int Tryz.underlying2 t3
    injection g3 with g3 _; subst g3
    unfold maxLen at s0 s1
    exact ⟨⟨v0, v1, v2, v3⟩, rfl, by simp only [Wai.fits]; omega⟩

set_option maxRecDepth 100000 in
theorem arg_Wait {H : Type} {enc : TypeId × Value → H} {W : World} {r : Reach} {b0 : Nat} {v : Value} {d : DataW H} {p : List MemPlace} (hv : Value.okWide Tryz.prog W r b0 85 v) (h : DataW.Trod enc Tryz.prog W 0 (fun _ => true) true 85 v d p) :
    ∃ x : Wai, v = .agg x.cs.toArray ∧ x.fits := arg_rec Tryz.underlying85 each_Wait hv h

set_option maxRecDepth 100000 in
theorem arg_Waits {H : Type} {enc : TypeId × Value → H} {W : World} {r : Reach} {b0 : Nat} {v : Value} {d : DataW H} {p : List MemPlace} (hv : Value.okWide Tryz.prog W r b0 25 v) (h : DataW.Trod enc Tryz.prog W 0 (fun _ => true) true 25 v d p) :
    ∃ a cap xs, v = .slice a xs.length cap ∧ Recs Wai.cs W a xs ∧ xs.length ≤ 9223372036854775807 ∧ ∀ x ∈ xs, Wai.fits x :=
  arg_recs Tryz.underlying25 (by kernel_rfl) Wai.len (by omega) each_Wait hv h
end Go.Proofs.YtbgklakhelcgcaaGreat
namespace Go.Proofs.YtbgklakhelcgcaaGreat
open Go.ChangeShapes Go.WideShapes Go.ChangeAt Go.RowKit

section
variable {H : Type} {enc : TypeId × Value → H} {W : World}
set_option maxRecDepth 100000 in
/-- A list of records in one cell. -/
theorem cell_recs {α : Type} {f : α → List Value} {c : Nat} {Z : α → Prop} {P : Program} {t e : TypeId} {v : Value} {fuel : Nat} {x : DataW H × List MemPlace}
    (ht : P.underlying t = some (.slice e)) (hC : P.cellsOf e = c) (hc : ∀ x, (f x).length = c) (h0 : 0 < c)
    (each : ∀ fuel cs x, DataW.trod enc P W 0 (fun _ => true) true fuel e cs = some x → ∃ r : α, cs = f r ∧ Z r)
    (hf : DataW.trod enc P W 0 (fun _ => true) true fuel t [v] = some x) :
    ∃ a cap xs, v = .slice a xs.length cap ∧ Recs f W a xs ∧ xs.length ≤ 9223372036854775807 ∧ ∀ x ∈ xs, Z x := by
  rcases Go.Deep.open_slice ht hf with ⟨hcs, _⟩ | ⟨ad, l, cc, m, n, D, Pl, hcs, _, hl, hm, hmm, _, hi⟩
  · injection hcs with hcs _
    exact ⟨none, 0, [], hcs, Lies.nil _ _, by simp, by simp⟩
  · injection hcs with hcs _
    subst hcs
    simp only [if_true] at hmm
    subst hmm
    have hall : ∀ i, i < l → ∃ x : α, (∀ j v, (f x)[j]? = some v → W.cell? (ad.add (i * c + j)) = some v) ∧ Z x := by
      intro i hlt
      obtain ⟨cs', hcells, htr⟩ := hi i (by omega)
      obtain ⟨x, rfl, hz⟩ := each _ _ _ htr
      obtain ⟨_, hlen, hat⟩ := World.cells?_some hcells
      refine ⟨x, fun j v hj => ?_, hz⟩
      have hjl : j < P.cellsOf e := by rw [← hlen]; exact (List.getElem?_eq_some_iff.1 hj).1
      have := hat j hjl
      rw [hj, hC, Go.Deep.add_add] at this
      exact this
    obtain ⟨xs, hxl, hxs⟩ := list_choose l hall
    refine ⟨some ad, m, xs, by rw [hxl], ?_, ?_, ?_⟩
    · obtain ⟨b, off, spot⟩ := ad
      by_cases hpos : 0 < l
      · have hk0 : 0 < xs.length := by omega
        have hfl : 0 < (f xs[0]).length := by rw [hc]; exact h0
        have hc0 := (hxs 0 hk0).1 0 (f xs[0])[0] (List.getElem?_eq_getElem hfl)
        have hspot : spot = none := by simpa [Addr.add] using World.cell?_spot hc0
        subst hspot
        refine Recs.mk hc fun k hk j v hj => ?_
        have := (hxs k hk).1 j v hj
        rw [Go.WideShapes.add_plain] at this
        exact this
      · have : xs = [] := List.eq_nil_of_length_eq_zero (by omega)
        subst this
        exact Lies.nil _ _
    · rw [hxl]; unfold maxLen at hm; omega
    · intro x hx
      obtain ⟨k, hk, rfl⟩ := List.getElem_of_mem hx
      exact (hxs k hk).2
end

set_option maxRecDepth 100000 in
theorem pcells_flat : ∀ ps : List Pur, pcells ps = ps.flatMap Pur.cells
  | [] => rfl
  | p :: r => by rw [List.flatMap_cons, ← pcells_flat r]; rfl
set_option maxRecDepth 100000 in
theorem each_Purse {H : Type} {enc : TypeId × Value → H} {W : World} (fuel : Nat) (cs : List Value) (x : DataW H × List MemPlace) (h : DataW.trod enc Tryz.prog W 0 (fun _ => true) true fuel 79 cs = some x) : ∃ r : Pur, cs = r.cells ∧ r.name.size ≤ 9223372036854775807 := by
  obtain ⟨hl, n, hf⟩ := rec_fields Tryz.underlying79 (by kernel_rfl) (by kernel_rfl) h
  match cs, hl with
  | [c0, c1], _ =>
    obtain ⟨u0, y0, e0, t0⟩ := hf 0 _ rfl
    injection e0 with e0; subst e0
    obtain ⟨v0, g0, _, s0⟩ := DataW.trod_string Tryz.underlying9 t0
    injection g0 with g0 _; subst g0
    obtain ⟨u1, y1, e1, t1⟩ := hf 1 _ rfl
    injection e1 with e1; subst e1
    obtain ⟨v1, g1, _, _⟩ := DataW.trod_int Tryz.underlying2 t1
    injection g1 with g1 _; subst g1
    unfold maxLen at s0
    exact ⟨⟨v0, v1⟩, rfl, by simp only; omega⟩

set_option maxRecDepth 100000 in
/-- Its cells read as a book's. -/
theorem each_Book {H : Type} {enc : TypeId × Value → H} {W : World} (fuel : Nat) (cs : List Value) (x : DataW H × List MemPlace) (h : DataW.trod enc Tryz.prog W 0 (fun _ => true) true fuel 27 cs = some x) :
    ∃ (b : Bok) (s : Spots), cs = (#[.int .i64 b.season, .int .i64 b.supply, .int .i64 b.burnt, .int .i64 b.pot, .slice s.fa b.folk.length s.fc, .slice s.ma b.mills.length s.mc, .slice s.pa b.parts.length s.pc, .slice s.wa b.waits.length s.wc] : Array Value).toList ∧ BookAt W b s ∧ BFits b := by
  obtain ⟨hl, n, hf⟩ := rec_fields Tryz.underlying27 (by kernel_rfl) (by kernel_rfl) h
  match cs, hl with
  | [c0, c1, c2, c3, c4, c5, c6, c7], _ =>
    obtain ⟨u0, y0, e0, t0⟩ := hf 0 _ rfl
    injection e0 with e0; subst e0
    obtain ⟨v0, g0, _, _⟩ := DataW.trod_int Tryz.underlying2 t0
    injection g0 with g0 _; subst g0
    obtain ⟨u1, y1, e1, t1⟩ := hf 1 _ rfl
    injection e1 with e1; subst e1
    obtain ⟨v1, g1, _, _⟩ := DataW.trod_int Tryz.underlying2 t1
    injection g1 with g1 _; subst g1
    obtain ⟨u2, y2, e2, t2⟩ := hf 2 _ rfl
    injection e2 with e2; subst e2
    obtain ⟨v2, g2, _, _⟩ := DataW.trod_int Tryz.underlying2 t2
    injection g2 with g2 _; subst g2
    obtain ⟨u3, y3, e3, t3⟩ := hf 3 _ rfl
    injection e3 with e3; subst e3
    obtain ⟨v3, g3, _, _⟩ := DataW.trod_int Tryz.underlying2 t3
    injection g3 with g3 _; subst g3
    obtain ⟨u4, y4, e4, t4⟩ := hf 4 _ rfl
    injection e4 with e4; subst e4
    obtain ⟨fa, fc, fs, rfl, r4, l4, z4⟩ := cell_recs Tryz.underlying22 (by kernel_rfl) (f := Pur.cells) (c := 2) (fun _ => rfl) (by omega) each_Purse t4
    obtain ⟨u5, y5, e5, t5⟩ := hf 5 _ rfl
    injection e5 with e5; subst e5
    obtain ⟨ma, mc, ms, rfl, r5, l5, z5⟩ := cell_recs Tryz.underlying23 (by kernel_rfl) Mil.len (by omega) each_Mill t5
    obtain ⟨u6, y6, e6, t6⟩ := hf 6 _ rfl
    injection e6 with e6; subst e6
    obtain ⟨pa, pc, ps, rfl, r6, l6, z6⟩ := cell_recs Tryz.underlying24 (by kernel_rfl) Par.len (by omega) each_Part t6
    obtain ⟨u7, y7, e7, t7⟩ := hf 7 _ rfl
    injection e7 with e7; subst e7
    obtain ⟨wa, wc, ws, rfl, r7, l7, z7⟩ := cell_recs Tryz.underlying25 (by kernel_rfl) Wai.len (by omega) each_Wait t7
    exact ⟨⟨v0, v1, v2, v3, fs, ms, ps, ws⟩, ⟨fa, fc, ma, mc, pa, pc, wa, wc⟩, rfl, ⟨show Lies W fa (pcells fs) by rw [pcells_flat]; exact r4, r5, r6, r7⟩, ⟨l4, l5, l6, l7, z4, z5, z6, z7⟩⟩

set_option maxRecDepth 100000 in
/-- A book among the arguments. -/
theorem arg_Book {H : Type} {enc : TypeId × Value → H} {W : World} {r : Reach} {b0 : Nat} {v : Value} {d : DataW H} {p : List MemPlace} (hv : Value.okWide Tryz.prog W r b0 27 v) (h : DataW.Trod enc Tryz.prog W 0 (fun _ => true) true 27 v d p) :
    ∃ (b : Bok) (s : Spots), v = .agg #[.int .i64 b.season, .int .i64 b.supply, .int .i64 b.burnt, .int .i64 b.pot, .slice s.fa b.folk.length s.fc, .slice s.ma b.mills.length s.mc, .slice s.pa b.parts.length s.pc, .slice s.wa b.waits.length s.wc] ∧ BookAt W b s ∧ BFits b := by
  obtain ⟨cs, rfl, hsz⟩ := okWide_struct Tryz.underlying27 hv
  obtain ⟨fuel, hf⟩ := h
  obtain ⟨b, s, e, hb, hf⟩ := each_Book _ _ _ hf
  refine ⟨b, s, ?_, hb, hf⟩
  have e' : cs.toList = (#[.int .i64 b.season, .int .i64 b.supply, .int .i64 b.burnt, .int .i64 b.pot, .slice s.fa b.folk.length s.fc, .slice s.ma b.mills.length s.mc, .slice s.pa b.parts.length s.pc, .slice s.wa b.waits.length s.wc] : Array Value).toList := by simpa [Value.cells] using e
  rw [Array.toList_inj.1 e']
end Go.Proofs.YtbgklakhelcgcaaGreat
