/-
  A book: four numbers and four lists; where its lists lie; and what the laws' own helpers do with it.
-/
import Derived.Test.YtbgklakhelcgcaaRecMill
import Derived.Test.YtbgklakhelcgcaaRecPart
import Derived.Test.YtbgklakhelcgcaaRecWait
import Derived.Test.YtbgklakhelcgcaaPursLaw
import Derived.Test.YtbgklakhelcgcaaOwn
import Derived.Test.YtbgklakhelcgcaaOwnRes
namespace Go.Proofs.Ytbgklakhelcgcaa
open Go.ChangeShapes Go.WideShapes Go.ChangeAt Go.RowKit

/-- A book. -/
structure Bok where
  season : Int
  supply : Int
  burnt : Int
  pot : Int
  folk : List Pur
  mills : List Mil
  parts : List Par
  waits : List Wai
/-- Where its lists lie, and each one's room. -/
structure Spots where
  fa : Option Addr
  fc : Nat
  ma : Option Addr
  mc : Nat
  pa : Option Addr
  pc : Nat
  wa : Option Addr
  wc : Nat
/-- Its lists lie there. -/
structure BookAt (w : World) (b : Bok) (s : Spots) : Prop where
  folk : Purs w s.fa b.folk
  mills : Recs Mil.cs w s.ma b.mills
  parts : Recs Par.cs w s.pa b.parts
  waits : Recs Wai.cs w s.wa b.waits
theorem BookAt.below {w w' : World} {b : Bok} {s : Spots} (h : BookAt w b s) (hb : Below w.heap.size w w') : BookAt w' b s :=
  ⟨h.folk.below hb, h.mills.below hb, h.parts.below hb, h.waits.below hb⟩
theorem BookAt.draws {w : World} {b : Bok} {s : Spots} (h : BookAt w b s) (n : Nat) : BookAt (w.drewN n) b s :=
  ⟨h.folk, h.mills, h.parts, h.waits⟩
/-- Its lists are lists of a machine. -/
structure BFits (b : Bok) : Prop where
  fl : b.folk.length ≤ 9223372036854775807
  ml : b.mills.length ≤ 9223372036854775807
  pl : b.parts.length ≤ 9223372036854775807
  wl : b.waits.length ≤ 9223372036854775807
  fs : ∀ p ∈ b.folk, p.name.size ≤ 9223372036854775807
  ms : ∀ p ∈ b.mills, p.fits
  ps : ∀ p ∈ b.parts, p.fits
  ws : ∀ p ∈ b.waits, p.fits
/-- Its lists are not long. -/
structure BLen (b : Bok) : Prop where
  fl : b.folk.length ≤ 1048576
  ml : b.mills.length ≤ 1048576
  pl : b.parts.length ≤ 1048576
  wl : b.waits.length ≤ 1048576
/-- A block holds a book whose lists lie. -/
structure BoxB (w : World) (B : Nat) (b : Bok) (s : Spots) : Prop where
  book : BookAt w b s
  c0 : w.cell? ⟨B, 0, none⟩ = some (.int .i64 b.season)
  c1 : w.cell? ⟨B, 1, none⟩ = some (.int .i64 b.supply)
  c2 : w.cell? ⟨B, 2, none⟩ = some (.int .i64 b.burnt)
  c3 : w.cell? ⟨B, 3, none⟩ = some (.int .i64 b.pot)
  c4 : w.cell? ⟨B, 4, none⟩ = some (.slice s.fa b.folk.length s.fc)
  c5 : w.cell? ⟨B, 5, none⟩ = some (.slice s.ma b.mills.length s.mc)
  c6 : w.cell? ⟨B, 6, none⟩ = some (.slice s.pa b.parts.length s.pc)
  c7 : w.cell? ⟨B, 7, none⟩ = some (.slice s.wa b.waits.length s.wc)
theorem BoxB.lt {w : World} {B : Nat} {b : Bok} {s : Spots} (h : BoxB w B b s) : B < w.heap.size := at_lt h.c0
theorem BoxB.below {w w' : World} {B : Nat} {b : Bok} {s : Spots} (h : BoxB w B b s) (hb : Below w.heap.size w w') : BoxB w' B b s := by
  have k : ∀ o v, w.cell? ⟨B, o, none⟩ = some v → w'.cell? ⟨B, o, none⟩ = some v := fun o v hc => (hb.cell (p := ⟨B, o, none⟩) h.lt).trans hc
  exact ⟨h.book.below hb, k _ _ h.c0, k _ _ h.c1, k _ _ h.c2, k _ _ h.c3, k _ _ h.c4, k _ _ h.c5, k _ _ h.c6, k _ _ h.c7⟩
theorem BoxB.draws {w : World} {B : Nat} {b : Bok} {s : Spots} (h : BoxB w B b s) (n : Nat) : BoxB (w.drewN n) B b s :=
  ⟨h.book.draws n, h.c0, h.c1, h.c2, h.c3, h.c4, h.c5, h.c6, h.c7⟩
theorem BoxB.new {w : World} {b : Bok} {s : Spots} (h : BookAt w b s) (T : TypeId) :
    BoxB (w.alloc (.cells #[.int .i64 b.season, .int .i64 b.supply, .int .i64 b.burnt, .int .i64 b.pot, .slice s.fa b.folk.length s.fc, .slice s.ma b.mills.length s.mc, .slice s.pa b.parts.length s.pc, .slice s.wa b.waits.length s.wc] T)) w.heap.size b s := by
  have k : ∀ (o : Nat) v, (#[.int .i64 b.season, .int .i64 b.supply, .int .i64 b.burnt, .int .i64 b.pot, .slice s.fa b.folk.length s.fc, .slice s.ma b.mills.length s.mc, .slice s.pa b.parts.length s.pc, .slice s.wa b.waits.length s.wc] : Array Value)[o]? = some v → (w.alloc (.cells #[.int .i64 b.season, .int .i64 b.supply, .int .i64 b.burnt, .int .i64 b.pot, .slice s.fa b.folk.length s.fc, .slice s.ma b.mills.length s.mc, .slice s.pa b.parts.length s.pc, .slice s.wa b.waits.length s.wc] T)).cell? ⟨w.heap.size, o, none⟩ = some v := fun o v hv => by
    simp only [World.cell?, heap_alloc_new]; exact hv
  exact ⟨h.below (below_new _ _), k _ _ rfl, k _ _ rfl, k _ _ rfl, k _ _ rfl, k _ _ rfl, k _ _ rfl, k _ _ rfl, k _ _ rfl⟩

theorem cells16 {w : World} {B B' : Nat} {b : Bok} {s s' : Spots} (h : BoxB w B b s) (h' : BoxB w B' b s') :
    w.cell? ⟨B, 0, none⟩ = some (.int .i64 b.season) ∧ w.cell? ⟨B, 1, none⟩ = some (.int .i64 b.supply) ∧ w.cell? ⟨B, 2, none⟩ = some (.int .i64 b.burnt) ∧ w.cell? ⟨B, 3, none⟩ = some (.int .i64 b.pot) ∧ w.cell? ⟨B, 4, none⟩ = some (.slice s.fa b.folk.length s.fc) ∧ w.cell? ⟨B, 5, none⟩ = some (.slice s.ma b.mills.length s.mc) ∧ w.cell? ⟨B, 6, none⟩ = some (.slice s.pa b.parts.length s.pc) ∧ w.cell? ⟨B, 7, none⟩ = some (.slice s.wa b.waits.length s.wc) ∧ w.cell? ⟨B', 0, none⟩ = some (.int .i64 b.season) ∧ w.cell? ⟨B', 1, none⟩ = some (.int .i64 b.supply) ∧ w.cell? ⟨B', 2, none⟩ = some (.int .i64 b.burnt) ∧ w.cell? ⟨B', 3, none⟩ = some (.int .i64 b.pot) ∧ w.cell? ⟨B', 4, none⟩ = some (.slice s'.fa b.folk.length s'.fc) ∧ w.cell? ⟨B', 5, none⟩ = some (.slice s'.ma b.mills.length s'.mc) ∧ w.cell? ⟨B', 6, none⟩ = some (.slice s'.pa b.parts.length s'.pc) ∧ w.cell? ⟨B', 7, none⟩ = some (.slice s'.wa b.waits.length s'.wc) :=
  ⟨h.c0, h.c1, h.c2, h.c3, h.c4, h.c5, h.c6, h.c7, h'.c0, h'.c1, h'.c2, h'.c3, h'.c4, h'.c5, h'.c6, h'.c7⟩

/-- Two lists that lie apart. -/
def ApartN (a1 a2 : Option Addr) (n1 n2 : Nat) : Prop := ∀ b1 b2, a1 = some ⟨b1, 0, none⟩ → a2 = some ⟨b2, 0, none⟩ → 0 < n1 → 0 < n2 → b1 ≠ b2
theorem ApartN.symm {a1 a2 : Option Addr} {n1 n2 : Nat} (h : ApartN a1 a2 n1 n2) : ApartN a2 a1 n2 n1 := fun b1 b2 e1 e2 h1 h2 e => h b2 b1 e2 e1 h2 h1 e.symm
theorem ApartN.lt {x y n1 n2 : Nat} (h : x < y) : ApartN (some ⟨x, 0, none⟩) (some ⟨y, 0, none⟩) n1 n2 := by
  intro b1 b2 e1 e2 _ _ e
  injection e1 with e1; injection e1 with e1; injection e2 with e2; injection e2 with e2
  omega
theorem ApartN.none2 {a : Option Addr} {b : Option Addr} {n : Nat} : ApartN a b n 0 := fun _ _ _ _ _ h => by omega
theorem ApartN.none1 {a : Option Addr} {b : Option Addr} {n : Nat} : ApartN a b 0 n := fun _ _ _ _ h => by omega
/-- A book of the call's own: each list in a block of its own, from B on, no two in one. -/
structure OwnB (w : World) (B : Nat) (b : Bok) (s : Spots) : Prop where
  folk : OwnP w B s.fa b.folk
  mills : OwnR Mil.cs 5 w B s.ma b.mills
  parts : OwnR Par.cs 3 w B s.pa b.parts
  waits : OwnR Wai.cs 4 w B s.wa b.waits
  fm : ApartN s.fa s.ma b.folk.length b.mills.length
  fp : ApartN s.fa s.pa b.folk.length b.parts.length
  fw : ApartN s.fa s.wa b.folk.length b.waits.length
  mp : ApartN s.ma s.pa b.mills.length b.parts.length
  mw : ApartN s.ma s.wa b.mills.length b.waits.length
  pw : ApartN s.pa s.wa b.parts.length b.waits.length
theorem OwnB.at {w : World} {B : Nat} {b : Bok} {s : Spots} (h : OwnB w B b s) : BookAt w b s := ⟨h.folk.1, h.mills.1, h.parts.1, h.waits.1⟩
theorem OwnB.below {w w' : World} {B : Nat} {b : Bok} {s : Spots} (h : OwnB w B b s) (hb : Below w.heap.size w w') : OwnB w' B b s :=
  ⟨h.folk.below hb, h.mills.below hb, h.parts.below hb, h.waits.below hb, h.fm, h.fp, h.fw, h.mp, h.mw, h.pw⟩

/-- Values in block O, from its head on, that may be written. -/
structure OutV (w : World) (O : Nat) (vs : List Value) : Prop where
  has : ∀ j v, vs[j]? = some v → w.cell? ⟨O, j, none⟩ = some v
  free : ∀ o, w.frozen? ⟨O, o, none⟩ = false
  lt : O < w.heap.size
theorem OutV.below {w w' : World} {O : Nat} {vs : List Value} (h : OutV w O vs) (hb : Below w.heap.size w w') : OutV w' O vs :=
  ⟨fun j v hj => (hb.cell (p := ⟨O, j, none⟩) h.lt).trans (h.has j v hj), fun o => (hb.frozen (p := ⟨O, o, none⟩) h.lt).trans (h.free o), Nat.lt_of_lt_of_le h.lt hb.size⟩
theorem OutV.set {w : World} {O : Nat} {vs : List Value} (h : OutV w O vs) (k : Nat) (v : Value) : OutV (w.setCell ⟨O, k, none⟩ v) O (vs.set k v) where
  has := fun j u hj => by
    have hlt : j < vs.length := by have := (List.getElem?_eq_some_iff.1 hj).1; simpa using this
    have hu := h.has j vs[j] (List.getElem?_eq_getElem hlt)
    by_cases e : j = k
    · subst e
      rw [List.getElem?_set_self hlt] at hj
      injection hj with hj; subst hj
      rw [World.cell?_setCell_same _ _ _ hu]
    · rw [List.getElem?_set_ne (by omega)] at hj
      rw [World.cell?_setCell_other _ _ _ _ (by intro q; injection q with _ q; exact e q.symm)]
      exact h.has j u hj
  free := fun o => by have := h.free o; go_simp
  lt := by have := h.lt; simpa [World.setCell] using this
theorem OutV.new (w : World) (vs : List Value) (T : TypeId) : OutV (w.alloc (.cells vs.toArray T)) w.heap.size vs :=
  ⟨fun j v hj => by simp only [World.cell?, heap_alloc_new]; simpa using hj, free_new _ _ _, by simp⟩

theorem szV_bd {ss : List ByteArray} {left : Int} (h0 : 0 ≤ left) : -1 ≤ szV ss left ∧ szV ss left ≤ left := by
  unfold szV
  split <;> omega
theorem szV_len {ss : List ByteArray} {left : Int} (h1 : left ≤ 1048576) (h : 0 ≤ szV ss left) : ss.length ≤ 1048576 := by
  unfold szV at h
  split at h <;> omega

/-- How much is left behind a book. -/
def SzB (b : Bok) (w : World) (e : Ending) (w' : World) : Prop :=
  ∃ r : Int, e = .returned (.int .i64 r) ∧ -1 ≤ r ∧ r ≤ 1048576 ∧ (0 ≤ r → BLen b) ∧ Below w.heap.size w w'

/-- What 'toBook' leaves: the same book, of the call's own. -/
def ToB (b : Bok) (w : World) (e : Ending) (w' : World) : Prop :=
  ∃ s : Spots, e = .returned (.agg #[.int .i64 b.season, .int .i64 b.supply, .int .i64 b.burnt, .int .i64 b.pot, .slice s.fa b.folk.length s.fc, .slice s.ma b.mills.length s.mc, .slice s.pa b.parts.length s.pc, .slice s.wa b.waits.length s.wc]) ∧ OwnB w' w.heap.size b s ∧ Below w.heap.size w w'

theorem info_Book : (Try.prog.info? 29).map (fun i => (i.zero, i.size, i.bytes)) = some (some (.agg #[.int .i64 0, .int .i64 0, .int .i64 0, .int .i64 0, .slice none 0 0, .slice none 0 0, .slice none 0 0, .slice none 0 0]), 8, 128) := by kernel_rfl

set_option maxHeartbeats 1000000 in
set_option maxRecDepth 100000 in
theorem eqBook_same {w : World} {b : Bok} {s s' : Spots} (h : BookAt w b s) (h' : BookAt w b s') (hl : BLen b) :
    Calls Try.prog 8 #[.agg #[.int .i64 b.season, .int .i64 b.supply, .int .i64 b.burnt, .int .i64 b.pot, .slice s.fa b.folk.length s.fc, .slice s.ma b.mills.length s.mc, .slice s.pa b.parts.length s.pc, .slice s.wa b.waits.length s.wc], .agg #[.int .i64 b.season, .int .i64 b.supply, .int .i64 b.burnt, .int .i64 b.pot, .slice s'.fa b.folk.length s'.fc, .slice s'.ma b.mills.length s'.mc, .slice s'.pa b.parts.length s'.pc, .slice s'.wa b.waits.length s'.wc]] w fun e w' => e = .returned (.bool true) ∧ Below w.heap.size w w' := by
  have X0 := Lib.hid ((BoxB.new h 29).below (below_new _ (.cells #[.int .i64 b.season, .int .i64 b.supply, .int .i64 b.burnt, .int .i64 b.pot, .slice s'.fa b.folk.length s'.fc, .slice s'.ma b.mills.length s'.mc, .slice s'.pa b.parts.length s'.pc, .slice s'.wa b.waits.length s'.wc] 29)))
  have Y0 := Lib.hid (BoxB.new (h'.below (below_new w (.cells #[.int .i64 b.season, .int .i64 b.supply, .int .i64 b.burnt, .int .i64 b.pot, .slice s.fa b.folk.length s.fc, .slice s.ma b.mills.length s.mc, .slice s.pa b.parts.length s.pc, .slice s.wa b.waits.length s.wc] 29))) 29)
  have B0 := Lib.hid (below_trans (below_new w (.cells #[.int .i64 b.season, .int .i64 b.supply, .int .i64 b.burnt, .int .i64 b.pot, .slice s.fa b.folk.length s.fc, .slice s.ma b.mills.length s.mc, .slice s.pa b.parts.length s.pc, .slice s.wa b.waits.length s.wc] 29)) (below_new _ (.cells #[.int .i64 b.season, .int .i64 b.supply, .int .i64 b.burnt, .int .i64 b.pot, .slice s'.fa b.folk.length s'.fc, .slice s'.ma b.mills.length s'.mc, .slice s'.pa b.parts.length s'.pc, .slice s'.wa b.waits.length s'.wc] 29)))
  have HL := Lib.hid hl
  clear h h' hl
  go_enter Try.func8, Try.ntmps8
  go_wp2_with fail
  refine (eqPurseS_same _ _ X0.out.book.folk Y0.out.book.folk HL.out.fl).mono ?_
  rintro e w1 ⟨rfl, hb1⟩
  have X1 := Lib.hid (X0.out.below hb1)
  have Y1 := Lib.hid (Y0.out.below hb1)
  have B1 := Lib.hid (below_trans B0.out hb1)
  clear hb1 X0 Y0 B0
  have c5 := X1.out.c5
  have d5 := Y1.out.c5
  simp only [World.size_alloc] at d5
  go_wp2_with fail
  refine (eqMillS_same _ _ X1.out.book.mills Y1.out.book.mills HL.out.ml).mono ?_
  rintro e w2 ⟨rfl, hb2⟩
  have X2 := Lib.hid (X1.out.below hb2)
  have Y2 := Lib.hid (Y1.out.below hb2)
  have B2 := Lib.hid (below_trans B1.out hb2)
  clear hb2 X1 Y1 B1 c5 d5
  have c6 := X2.out.c6
  have d6 := Y2.out.c6
  simp only [World.size_alloc] at d6
  go_wp2_with fail
  refine (eqPartS_same _ _ X2.out.book.parts Y2.out.book.parts HL.out.pl).mono ?_
  rintro e w3 ⟨rfl, hb3⟩
  have X3 := Lib.hid (X2.out.below hb3)
  have Y3 := Lib.hid (Y2.out.below hb3)
  have B3 := Lib.hid (below_trans B2.out hb3)
  clear hb3 X2 Y2 B2 c6 d6
  have c7 := X3.out.c7
  have d7 := Y3.out.c7
  simp only [World.size_alloc] at d7
  go_wp2_with fail
  refine (eqWaitS_same _ _ X3.out.book.waits Y3.out.book.waits HL.out.wl).mono ?_
  rintro e w4 ⟨rfl, hb4⟩
  have B4 := Lib.hid (below_trans B3.out hb4)
  clear hb4 X3 Y3 B3 c7 d7
  go_wp2
  go_ret
  exact ⟨rfl, B4.out⟩
end Go.Proofs.Ytbgklakhelcgcaa
