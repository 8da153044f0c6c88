/-
  Texts joined: OwnRes, Book, All, Down, MillS, MillV, Find, PartS, PartV.
-/
import Derived.Test.YtncandoohlndnaaGreatJ2
import Derived.LoopN
import Derived.Maps.AppendAt
namespace Go.Proofs.YtncandoohlndnaaGreat
open Go.ChangeShapes Go.WideShapes Go.ChangeAt Go.RowKit

section
variable {α : Type}
/-- A list of the call's own. -/
def ResO (f : α → List Value) (c : Nat) (out : List α) (w : World) (e : Ending) (w' : World) : Prop :=
  ∃ a cap, e = .returned (.slice a out.length cap) ∧ OwnR f c w' w.heap.size a out ∧ Below w.heap.size w w'
/-- A list of the call's own, and a word. -/
def ResOB (f : α → List Value) (c : Nat) (out : List α) (ok : Bool) (w : World) (e : Ending) (w' : World) : Prop :=
  ∃ a cap, e = .returned (.tuple #[.slice a out.length cap, .bool ok]) ∧ OwnR f c w' w.heap.size a out ∧ Below w.heap.size w w' ∧ out.length ≤ cap
/-- A list of the call's own, and a number. -/
def ResOI (f : α → List Value) (c : Nat) (out : List α) (n : Int) (w : World) (e : Ending) (w' : World) : Prop :=
  ∃ a cap, e = .returned (.tuple #[.slice a out.length cap, .int .i64 n]) ∧ OwnR f c w' w.heap.size a out ∧ Below w.heap.size w w' ∧ out.length ≤ cap
/-- Two lists of the call's own, apart. -/
def ResOO (f : α → List Value) (c : Nat) (o1 o2 : List α) (w : World) (e : Ending) (w' : World) : Prop :=
  ∃ a1 c1 a2 c2, e = .returned (.tuple #[.slice a1 o1.length c1, .slice a2 o2.length c2]) ∧ OwnR f c w' w.heap.size a1 o1 ∧ OwnR f c w' w.heap.size a2 o2 ∧ (∀ b1 b2, a1 = some ⟨b1, 0, none⟩ → a2 = some ⟨b2, 0, none⟩ → o1 ≠ [] → o2 ≠ [] → b1 ≠ b2) ∧ Below w.heap.size w w'
/-- The same, of a row that is known whole. -/
def ResRB (f : α → List Value) (c : Nat) (T : TypeId) (out : List α) (ok : Bool) (w : World) (e : Ending) (w' : World) : Prop :=
  ∃ b cap, e = .returned (.tuple #[.slice (some ⟨b, 0, none⟩) out.length cap, .bool ok]) ∧ w'.ownsRow w.heap.size T c (.slice (some ⟨b, 0, none⟩) out.length cap) out.length (out.flatMap f) ∧ Below w.heap.size w w'
theorem resRB_own {f : α → List Value} {c : Nat} {T : TypeId} (hc : ∀ x, (f x).length = c) {out : List α} {ok : Bool} {w : World} {e : Ending} {w' : World} (h : ResRB f c T out ok w e w') : ResOB f c out ok w e w' := by
  obtain ⟨b, cap, he, ho, hb⟩ := h
  obtain ⟨a, c', e1, hr, -⟩ := ownR_of hc ho
  injection e1 with e1 e2 e3
  subst e1; subst e3
  exact ⟨_, _, he, hr, hb, (own_some ho).2.1⟩
/-- Where those from number k on lie. -/
theorem from_at {f : α → List Value} {c : Nat} (hf : ∀ x, (f x).length = c) {w : World} {b off k : Nat} {ps : List α} (cap : Nat) (h : Recs f w (some ⟨b, off, none⟩) ps) (hk : k ≤ ps.length) (hc : ps.length ≤ cap) :
    ∃ A, (if cap = k then some (⟨b, off, none⟩ : Addr) else some ⟨b, off + k * c, none⟩) = some A ∧ ∀ W, Below w.heap.size w W → ∀ j u, ((ps.drop k).flatMap f)[j]? = some u → W.cell? (A.add j) = some u := by
  by_cases e : cap = k
  · refine ⟨_, if_pos e, fun W _ j u hj => ?_⟩
    have : ps.drop k = [] := List.drop_eq_nil_of_le (by omega)
    rw [this] at hj; simp at hj
  · refine ⟨_, if_neg e, fun W hb j u hj => ?_⟩
    rw [flat_drop hf, List.getElem?_drop] at hj
    obtain ⟨b', off', e', hc'⟩ := (h.below hb) _ u hj
    injection e' with e'; injection e' with e1 e2; subst e1; subst e2
    rw [add_plain, Nat.add_assoc]; exact hc'
end
theorem RecAt.under {α : Type} {f : α → List Value} {w w' : World} {B B0 : Nat} {x : α} (h : RecAt f w B x) (hb : Below B0 w w') (hlt : B < B0) : RecAt f w' B x :=
  fun j v hj => by rw [hb.cell (p := ⟨B, j, none⟩) hlt]; exact h j v hj
end Go.Proofs.YtncandoohlndnaaGreat
namespace Go.Proofs.YtncandoohlndnaaGreat
open Go.ChangeShapes Go.WideShapes Go.ChangeAt Go.RowKit

/-- A book. -/
structure Bok where
  season : Int
  supply : Int
  burnt : Int
  pot : Int
  folk : List Pur
  mills : List Mil
  parts : List Par
  waits : List Wai
/-- Where its lists lie, and each one's room. -/
structure Spots where
  fa : Option Addr
  fc : Nat
  ma : Option Addr
  mc : Nat
  pa : Option Addr
  pc : Nat
  wa : Option Addr
  wc : Nat
/-- Its lists lie there. -/
structure BookAt (w : World) (b : Bok) (s : Spots) : Prop where
  folk : Purs w s.fa b.folk
  mills : Recs Mil.cs w s.ma b.mills
  parts : Recs Par.cs w s.pa b.parts
  waits : Recs Wai.cs w s.wa b.waits
theorem BookAt.below {w w' : World} {b : Bok} {s : Spots} (h : BookAt w b s) (hb : Below w.heap.size w w') : BookAt w' b s :=
  ⟨h.folk.below hb, h.mills.below hb, h.parts.below hb, h.waits.below hb⟩
theorem BookAt.draws {w : World} {b : Bok} {s : Spots} (h : BookAt w b s) (n : Nat) : BookAt (w.drewN n) b s :=
  ⟨h.folk, h.mills, h.parts, h.waits⟩
/-- Its lists are lists of a machine. -/
structure BFits (b : Bok) : Prop where
  fl : b.folk.length ≤ 9223372036854775807
  ml : b.mills.length ≤ 9223372036854775807
  pl : b.parts.length ≤ 9223372036854775807
  wl : b.waits.length ≤ 9223372036854775807
  fs : ∀ p ∈ b.folk, p.name.size ≤ 9223372036854775807
  ms : ∀ p ∈ b.mills, p.fits
  ps : ∀ p ∈ b.parts, p.fits
  ws : ∀ p ∈ b.waits, p.fits
/-- Its lists are not long. -/
structure BLen (b : Bok) : Prop where
  fl : b.folk.length ≤ 1048576
  ml : b.mills.length ≤ 1048576
  pl : b.parts.length ≤ 1048576
  wl : b.waits.length ≤ 1048576
/-- A block holds a book whose lists lie. -/
structure BoxB (w : World) (B : Nat) (b : Bok) (s : Spots) : Prop where
  book : BookAt w b s
  c0 : w.cell? ⟨B, 0, none⟩ = some (.int .i64 b.season)
  c1 : w.cell? ⟨B, 1, none⟩ = some (.int .i64 b.supply)
  c2 : w.cell? ⟨B, 2, none⟩ = some (.int .i64 b.burnt)
  c3 : w.cell? ⟨B, 3, none⟩ = some (.int .i64 b.pot)
  c4 : w.cell? ⟨B, 4, none⟩ = some (.slice s.fa b.folk.length s.fc)
  c5 : w.cell? ⟨B, 5, none⟩ = some (.slice s.ma b.mills.length s.mc)
  c6 : w.cell? ⟨B, 6, none⟩ = some (.slice s.pa b.parts.length s.pc)
  c7 : w.cell? ⟨B, 7, none⟩ = some (.slice s.wa b.waits.length s.wc)
theorem BoxB.lt {w : World} {B : Nat} {b : Bok} {s : Spots} (h : BoxB w B b s) : B < w.heap.size := at_lt h.c0
theorem BoxB.below {w w' : World} {B : Nat} {b : Bok} {s : Spots} (h : BoxB w B b s) (hb : Below w.heap.size w w') : BoxB w' B b s := by
  have k : ∀ o v, w.cell? ⟨B, o, none⟩ = some v → w'.cell? ⟨B, o, none⟩ = some v := fun o v hc => (hb.cell (p := ⟨B, o, none⟩) h.lt).trans hc
  exact ⟨h.book.below hb, k _ _ h.c0, k _ _ h.c1, k _ _ h.c2, k _ _ h.c3, k _ _ h.c4, k _ _ h.c5, k _ _ h.c6, k _ _ h.c7⟩
theorem BoxB.draws {w : World} {B : Nat} {b : Bok} {s : Spots} (h : BoxB w B b s) (n : Nat) : BoxB (w.drewN n) B b s :=
  ⟨h.book.draws n, h.c0, h.c1, h.c2, h.c3, h.c4, h.c5, h.c6, h.c7⟩
theorem BoxB.new {w : World} {b : Bok} {s : Spots} (h : BookAt w b s) (T : TypeId) :
    BoxB (w.alloc (.cells #[.int .i64 b.season, .int .i64 b.supply, .int .i64 b.burnt, .int .i64 b.pot, .slice s.fa b.folk.length s.fc, .slice s.ma b.mills.length s.mc, .slice s.pa b.parts.length s.pc, .slice s.wa b.waits.length s.wc] T)) w.heap.size b s := by
  have k : ∀ (o : Nat) v, (#[.int .i64 b.season, .int .i64 b.supply, .int .i64 b.burnt, .int .i64 b.pot, .slice s.fa b.folk.length s.fc, .slice s.ma b.mills.length s.mc, .slice s.pa b.parts.length s.pc, .slice s.wa b.waits.length s.wc] : Array Value)[o]? = some v → (w.alloc (.cells #[.int .i64 b.season, .int .i64 b.supply, .int .i64 b.burnt, .int .i64 b.pot, .slice s.fa b.folk.length s.fc, .slice s.ma b.mills.length s.mc, .slice s.pa b.parts.length s.pc, .slice s.wa b.waits.length s.wc] T)).cell? ⟨w.heap.size, o, none⟩ = some v := fun o v hv => by
    simp only [World.cell?, heap_alloc_new]; exact hv
  exact ⟨h.below (below_new _ _), k _ _ rfl, k _ _ rfl, k _ _ rfl, k _ _ rfl, k _ _ rfl, k _ _ rfl, k _ _ rfl, k _ _ rfl⟩

theorem cells16 {w : World} {B B' : Nat} {b : Bok} {s s' : Spots} (h : BoxB w B b s) (h' : BoxB w B' b s') :
    w.cell? ⟨B, 0, none⟩ = some (.int .i64 b.season) ∧ w.cell? ⟨B, 1, none⟩ = some (.int .i64 b.supply) ∧ w.cell? ⟨B, 2, none⟩ = some (.int .i64 b.burnt) ∧ w.cell? ⟨B, 3, none⟩ = some (.int .i64 b.pot) ∧ w.cell? ⟨B, 4, none⟩ = some (.slice s.fa b.folk.length s.fc) ∧ w.cell? ⟨B, 5, none⟩ = some (.slice s.ma b.mills.length s.mc) ∧ w.cell? ⟨B, 6, none⟩ = some (.slice s.pa b.parts.length s.pc) ∧ w.cell? ⟨B, 7, none⟩ = some (.slice s.wa b.waits.length s.wc) ∧ w.cell? ⟨B', 0, none⟩ = some (.int .i64 b.season) ∧ w.cell? ⟨B', 1, none⟩ = some (.int .i64 b.supply) ∧ w.cell? ⟨B', 2, none⟩ = some (.int .i64 b.burnt) ∧ w.cell? ⟨B', 3, none⟩ = some (.int .i64 b.pot) ∧ w.cell? ⟨B', 4, none⟩ = some (.slice s'.fa b.folk.length s'.fc) ∧ w.cell? ⟨B', 5, none⟩ = some (.slice s'.ma b.mills.length s'.mc) ∧ w.cell? ⟨B', 6, none⟩ = some (.slice s'.pa b.parts.length s'.pc) ∧ w.cell? ⟨B', 7, none⟩ = some (.slice s'.wa b.waits.length s'.wc) :=
  ⟨h.c0, h.c1, h.c2, h.c3, h.c4, h.c5, h.c6, h.c7, h'.c0, h'.c1, h'.c2, h'.c3, h'.c4, h'.c5, h'.c6, h'.c7⟩

/-- Two lists that lie apart. -/
def ApartN (a1 a2 : Option Addr) (n1 n2 : Nat) : Prop := ∀ b1 b2, a1 = some ⟨b1, 0, none⟩ → a2 = some ⟨b2, 0, none⟩ → 0 < n1 → 0 < n2 → b1 ≠ b2
theorem ApartN.symm {a1 a2 : Option Addr} {n1 n2 : Nat} (h : ApartN a1 a2 n1 n2) : ApartN a2 a1 n2 n1 := fun b1 b2 e1 e2 h1 h2 e => h b2 b1 e2 e1 h2 h1 e.symm
theorem ApartN.lt {x y n1 n2 : Nat} (h : x < y) : ApartN (some ⟨x, 0, none⟩) (some ⟨y, 0, none⟩) n1 n2 := by
  intro b1 b2 e1 e2 _ _ e
  injection e1 with e1; injection e1 with e1; injection e2 with e2; injection e2 with e2
  omega
theorem ApartN.none2 {a : Option Addr} {b : Option Addr} {n : Nat} : ApartN a b n 0 := fun _ _ _ _ _ h => by omega
theorem ApartN.none1 {a : Option Addr} {b : Option Addr} {n : Nat} : ApartN a b 0 n := fun _ _ _ _ h => by omega
/-- A list's place: none at all, or the head of a block. -/
def Rooted (a : Option Addr) (cap : Nat) : Prop := (a = none ∧ cap = 0) ∨ ∃ x, a = some ⟨x, 0, none⟩
/-- Each list's place, and its room. -/
structure Roots (b : Bok) (s : Spots) : Prop where
  f : Rooted s.fa s.fc
  m : Rooted s.ma s.mc
  p : Rooted s.pa s.pc
  w : Rooted s.wa s.wc
  cf : b.folk.length ≤ s.fc
  cm : b.mills.length ≤ s.mc
  cp : b.parts.length ≤ s.pc
  cw : b.waits.length ≤ s.wc
/-- A book of the call's own: each list in a block of its own, from B on, no two in one. -/
structure OwnB (w : World) (B : Nat) (b : Bok) (s : Spots) : Prop where
  folk : OwnP w B s.fa b.folk
  mills : OwnR Mil.cs 5 w B s.ma b.mills
  parts : OwnR Par.cs 3 w B s.pa b.parts
  waits : OwnR Wai.cs 4 w B s.wa b.waits
  fm : ApartN s.fa s.ma b.folk.length b.mills.length
  fp : ApartN s.fa s.pa b.folk.length b.parts.length
  fw : ApartN s.fa s.wa b.folk.length b.waits.length
  mp : ApartN s.ma s.pa b.mills.length b.parts.length
  mw : ApartN s.ma s.wa b.mills.length b.waits.length
  pw : ApartN s.pa s.wa b.parts.length b.waits.length
  rt : Roots b s
theorem OwnB.at {w : World} {B : Nat} {b : Bok} {s : Spots} (h : OwnB w B b s) : BookAt w b s := ⟨h.folk.1, h.mills.1, h.parts.1, h.waits.1⟩
theorem OwnB.below {w w' : World} {B : Nat} {b : Bok} {s : Spots} (h : OwnB w B b s) (hb : Below w.heap.size w w') : OwnB w' B b s :=
  ⟨h.folk.below hb, h.mills.below hb, h.parts.below hb, h.waits.below hb, h.fm, h.fp, h.fw, h.mp, h.mw, h.pw, h.rt⟩

/-- Values in block O, from its head on, that may be written. -/
structure OutV (w : World) (O : Nat) (vs : List Value) : Prop where
  has : ∀ j v, vs[j]? = some v → w.cell? ⟨O, j, none⟩ = some v
  free : ∀ o, w.frozen? ⟨O, o, none⟩ = false
  lt : O < w.heap.size
theorem OutV.below {w w' : World} {O : Nat} {vs : List Value} (h : OutV w O vs) (hb : Below w.heap.size w w') : OutV w' O vs :=
  ⟨fun j v hj => (hb.cell (p := ⟨O, j, none⟩) h.lt).trans (h.has j v hj), fun o => (hb.frozen (p := ⟨O, o, none⟩) h.lt).trans (h.free o), Nat.lt_of_lt_of_le h.lt hb.size⟩
theorem OutV.set {w : World} {O : Nat} {vs : List Value} (h : OutV w O vs) (k : Nat) (v : Value) : OutV (w.setCell ⟨O, k, none⟩ v) O (vs.set k v) where
  has := fun j u hj => by
    have hlt : j < vs.length := by have := (List.getElem?_eq_some_iff.1 hj).1; simpa using this
    have hu := h.has j vs[j] (List.getElem?_eq_getElem hlt)
    by_cases e : j = k
    · subst e
      rw [List.getElem?_set_self hlt] at hj
      injection hj with hj; subst hj
      rw [World.cell?_setCell_same _ _ _ hu]
    · rw [List.getElem?_set_ne (by omega)] at hj
      rw [World.cell?_setCell_other _ _ _ _ (by intro q; injection q with _ q; exact e q.symm)]
      exact h.has j u hj
  free := fun o => by have := h.free o; go_simp
  lt := by have := h.lt; simpa [World.setCell] using this
theorem OutV.new (w : World) (vs : List Value) (T : TypeId) : OutV (w.alloc (.cells vs.toArray T)) w.heap.size vs :=
  ⟨fun j v hj => by simp only [World.cell?, heap_alloc_new]; simpa using hj, free_new _ _ _, by simp⟩

theorem szV_bd {ss : List ByteArray} {left : Int} (h0 : 0 ≤ left) : -1 ≤ szV ss left ∧ szV ss left ≤ left := by
  unfold szV
  split <;> omega
theorem szV_len {ss : List ByteArray} {left : Int} (h1 : left ≤ 1048576) (h : 0 ≤ szV ss left) : ss.length ≤ 1048576 := by
  unfold szV at h
  split at h <;> omega

theorem szV_down {ss : List ByteArray} {left : Int} (h : 0 ≤ szV ss left) : szV ss left ≤ left - ss.length := by
  unfold szV at h ⊢
  split at h <;> rename_i hc
  · rw [if_pos hc]; omega
  · omega
theorem szR_down {α : Type} {z : α → Nat} {xs : List α} {left : Int} (h : 0 ≤ szR z xs left) : szR z xs left ≤ left - xs.length := by
  unfold szR at h ⊢
  split at h <;> rename_i hc
  · rw [if_pos hc]; omega
  · omega
/-- How much is left behind a book. -/
def SzB (b : Bok) (w : World) (e : Ending) (w' : World) : Prop :=
  ∃ r : Int, e = .returned (.int .i64 r) ∧ -1 ≤ r ∧ r ≤ 1048576 ∧ (0 ≤ r → BLen b ∧ b.folk.length + b.mills.length + b.parts.length + b.waits.length ≤ 1048576) ∧ Below w.heap.size w w'

set_option maxHeartbeats 4000000 in
set_option maxRecDepth 100000 in
theorem szBook_any {w : World} {b : Bok} {s : Spots} (left : Int) (h : BookAt w b s) (hf : BFits b) (h0 : 0 ≤ left) (h1 : left ≤ 1048576) :
    Calls Tryz.prog 4 #[.agg #[.int .i64 b.season, .int .i64 b.supply, .int .i64 b.burnt, .int .i64 b.pot, .slice s.fa b.folk.length s.fc, .slice s.ma b.mills.length s.mc, .slice s.pa b.parts.length s.pc, .slice s.wa b.waits.length s.wc], .int .i64 left] w (SzB b w) := by
  have X0 := Lib.hid (BoxB.new h 27)
  have HF := Lib.hid hf
  clear h hf
  have hl1 := HF.out.fl
  have hl2 := HF.out.ml
  have hl3 := HF.out.pl
  have hl4 := HF.out.wl
  go_enter Tryz.func4, Tryz.ntmps4
  go_wp2_with fail
  refine (szPurseS_any _ _ X0.out.book.folk (by omega) HF.out.fs (by omega) (by omega)).mono ?_
  rintro e w1 ⟨rfl, hb1⟩
  have X1 := Lib.hid (X0.out.below hb1)
  have B1 := Lib.hid (below_trans (below_new w (.cells #[.int .i64 b.season, .int .i64 b.supply, .int .i64 b.burnt, .int .i64 b.pot, .slice s.fa b.folk.length s.fc, .slice s.ma b.mills.length s.mc, .slice s.pa b.parts.length s.pc, .slice s.wa b.waits.length s.wc] 27)) hb1)
  clear hb1 X0
  obtain ⟨r1, e1⟩ : ∃ r, szV (pnames b.folk) left = r := ⟨_, rfl⟩
  have hd1 := szV_bd (ss := pnames b.folk) h0
  have hq1 := szV_len (ss := pnames b.folk) h1
  have hk1 := szV_down (ss := pnames b.folk) (left := left)
  rw [e1] at hd1 hq1 hk1 ⊢
  rw [pnames_length] at hk1
  rw [pnames_length] at hq1
  clear e1
  have c5 := X1.out.c5
  by_cases n1 : r1 < 0
  · have HE := Lib.hid (show SzB b w (.returned (.int .i64 (-1))) w1 from ⟨-1, rfl, by omega, by omega, fun h => by omega, B1.out⟩)
    go_wp2
    go_ret
    exact HE.out
  go_wp2_with fail
  refine (szMillS_any _ _ X1.out.book.mills (by omega) HF.out.ms (by omega) (by omega)).mono ?_
  rintro e w2 ⟨rfl, hb2⟩
  have X2 := Lib.hid (X1.out.below hb2)
  have B2 := Lib.hid (below_trans B1.out hb2)
  clear hb2 X1 B1 c5
  obtain ⟨r2, e2⟩ : ∃ r, szR Mil.bytes b.mills r1 = r := ⟨_, rfl⟩
  have hd2 := szR_bd (z := Mil.bytes) (xs := b.mills) (left := r1) (by omega)
  have hq2 := szR_small (z := Mil.bytes) (xs := b.mills) (left := r1) (by omega)
  have hk2 := szR_down (z := Mil.bytes) (xs := b.mills) (left := r1)
  rw [e2] at hd2 hq2 hk2 ⊢
  clear e2
  have c6 := X2.out.c6
  by_cases n2 : r2 < 0
  · have HE := Lib.hid (show SzB b w (.returned (.int .i64 (-1))) w2 from ⟨-1, rfl, by omega, by omega, fun h => by omega, B2.out⟩)
    go_wp2
    go_ret
    exact HE.out
  go_wp2_with fail
  refine (szPartS_any _ _ X2.out.book.parts (by omega) HF.out.ps (by omega) (by omega)).mono ?_
  rintro e w3 ⟨rfl, hb3⟩
  have X3 := Lib.hid (X2.out.below hb3)
  have B3 := Lib.hid (below_trans B2.out hb3)
  clear hb3 X2 B2 c6
  obtain ⟨r3, e3⟩ : ∃ r, szR Par.bytes b.parts r2 = r := ⟨_, rfl⟩
  have hd3 := szR_bd (z := Par.bytes) (xs := b.parts) (left := r2) (by omega)
  have hq3 := szR_small (z := Par.bytes) (xs := b.parts) (left := r2) (by omega)
  have hk3 := szR_down (z := Par.bytes) (xs := b.parts) (left := r2)
  rw [e3] at hd3 hq3 hk3 ⊢
  clear e3
  have c7 := X3.out.c7
  by_cases n3 : r3 < 0
  · have HE := Lib.hid (show SzB b w (.returned (.int .i64 (-1))) w3 from ⟨-1, rfl, by omega, by omega, fun h => by omega, B3.out⟩)
    go_wp2
    go_ret
    exact HE.out
  go_wp2_with fail
  refine (szWaitS_any _ _ X3.out.book.waits (by omega) HF.out.ws (by omega) (by omega)).mono ?_
  rintro e w4 ⟨rfl, hb4⟩
  have B4 := Lib.hid (below_trans B3.out hb4)
  clear hb4 X3 B3 c7
  obtain ⟨r4, e4⟩ : ∃ r, szR Wai.bytes b.waits r3 = r := ⟨_, rfl⟩
  have hd4 := szR_bd (z := Wai.bytes) (xs := b.waits) (left := r3) (by omega)
  have hq4 := szR_small (z := Wai.bytes) (xs := b.waits) (left := r3) (by omega)
  have hk4 := szR_down (z := Wai.bytes) (xs := b.waits) (left := r3)
  rw [e4] at hd4 hq4 hk4 ⊢
  clear e4
  by_cases n4 : r4 < 0
  · have HE := Lib.hid (show SzB b w (.returned (.int .i64 (-1))) w4 from ⟨-1, rfl, by omega, by omega, fun h => by omega, B4.out⟩)
    go_wp2
    go_ret
    exact HE.out
  have HE := Lib.hid (show SzB b w (.returned (.int .i64 r4)) w4 from ⟨r4, rfl, by omega, by omega, fun _ => ⟨⟨hq1 (by omega), (hq2 n2).1, (hq3 n3).1, (hq4 n4).1⟩, by have := hk1 (by omega); have := hk2 (by omega); have := hk3 (by omega); have := hk4 (by omega); omega⟩, B4.out⟩)
  clear hq1 hq2 hq3 hq4 hk1 hk2 hk3 hk4
  go_wp2
  go_ret
  exact HE.out

/-- What 'toBook' leaves: the same book, of the call's own. -/
def ToB (b : Bok) (w : World) (e : Ending) (w' : World) : Prop :=
  ∃ s : Spots, e = .returned (.agg #[.int .i64 b.season, .int .i64 b.supply, .int .i64 b.burnt, .int .i64 b.pot, .slice s.fa b.folk.length s.fc, .slice s.ma b.mills.length s.mc, .slice s.pa b.parts.length s.pc, .slice s.wa b.waits.length s.wc]) ∧ OwnB w' w.heap.size b s ∧ Below w.heap.size w w'

theorem info_Book : (Tryz.prog.info? 35).map (fun i => (i.zero, i.size, i.bytes)) = some (some (.agg #[.int .i64 0, .int .i64 0, .int .i64 0, .int .i64 0, .slice none 0 0, .slice none 0 0, .slice none 0 0, .slice none 0 0]), 8, 128) := by kernel_rfl

set_option maxHeartbeats 4000000 in
set_option maxRecDepth 100000 in
theorem toBook_any {w : World} {b : Bok} {s : Spots} (h : BookAt w b s) (hl : BLen b) :
    Calls Tryz.prog 6 #[.agg #[.int .i64 b.season, .int .i64 b.supply, .int .i64 b.burnt, .int .i64 b.pot, .slice s.fa b.folk.length s.fc, .slice s.ma b.mills.length s.mc, .slice s.pa b.parts.length s.pc, .slice s.wa b.waits.length s.wc]] w (ToB b w) := by
  have HL := Lib.hid hl
  clear hl
  obtain ⟨W0, hW0⟩ : ∃ W, w.alloc (.cells #[.int .i64 b.season, .int .i64 b.supply, .int .i64 b.burnt, .int .i64 b.pot, .slice s.fa b.folk.length s.fc, .slice s.ma b.mills.length s.mc, .slice s.pa b.parts.length s.pc, .slice s.wa b.waits.length s.wc] 27) = W := ⟨_, rfl⟩
  have hz0 : W0.heap.size = w.heap.size + 1 := by rw [← hW0]; simp
  have A0 := Lib.hid (BoxB.new h 27)
  have D0 := Lib.hid (below_new w (.cells #[.int .i64 b.season, .int .i64 b.supply, .int .i64 b.burnt, .int .i64 b.pot, .slice s.fa b.folk.length s.fc, .slice s.ma b.mills.length s.mc, .slice s.pa b.parts.length s.pc, .slice s.wa b.waits.length s.wc] 27))
  rw [hW0] at A0 D0
  obtain ⟨W1, hW1⟩ : ∃ W, W0.alloc (.cells #[.int .i64 0, .int .i64 0, .int .i64 0, .int .i64 0, .slice none 0 0, .slice none 0 0, .slice none 0 0, .slice none 0 0] 35) = W := ⟨_, rfl⟩
  have hz1 : W1.heap.size = w.heap.size + 1 + 1 := by rw [← hW1]; simp [hz0]
  have X1 := Lib.hid (A0.out.below (below_new W0 (.cells #[.int .i64 0, .int .i64 0, .int .i64 0, .int .i64 0, .slice none 0 0, .slice none 0 0, .slice none 0 0, .slice none 0 0] 35)))
  have R1 := Lib.hid (OutV.new W0 [.int .i64 0, .int .i64 0, .int .i64 0, .int .i64 0, .slice none 0 0, .slice none 0 0, .slice none 0 0, .slice none 0 0] 35)
  have E1 := Lib.hid (below_trans D0.out (below_new W0 (.cells #[.int .i64 0, .int .i64 0, .int .i64 0, .int .i64 0, .slice none 0 0, .slice none 0 0, .slice none 0 0, .slice none 0 0] 35)))
  simp only [hz0] at R1
  rw [hW1] at X1 R1 E1
  obtain ⟨W2, hW2⟩ : ∃ W, W1.alloc (.cells #[.int .i64 0, .int .i64 0, .int .i64 0, .int .i64 0, .slice none 0 0, .slice none 0 0, .slice none 0 0, .slice none 0 0] 35) = W := ⟨_, rfl⟩
  have O2 := Lib.hid (OutV.new W1 [.int .i64 0, .int .i64 0, .int .i64 0, .int .i64 0, .slice none 0 0, .slice none 0 0, .slice none 0 0, .slice none 0 0] 35)
  have D2 := Lib.hid (below_new W1 (.cells #[.int .i64 0, .int .i64 0, .int .i64 0, .int .i64 0, .slice none 0 0, .slice none 0 0, .slice none 0 0, .slice none 0 0] 35))
  simp only [hz1] at O2
  rw [hW2] at O2 D2
  clear A0 D0 h
  have X2 := Lib.hid (X1.out.below D2.out)
  have x0 := X2.out.c0
  have x1 := X2.out.c1
  have x2 := X2.out.c2
  have x3 := X2.out.c3
  have x4 := X2.out.c4
  have o0 := O2.out.has 0 _ rfl
  have o1 := O2.out.has 1 _ rfl
  have o2 := O2.out.has 2 _ rfl
  have o3 := O2.out.has 3 _ rfl
  have of2 := O2.out.free
  have O3 := Lib.hid ((((O2.out.set 0 (.int .i64 b.season)).set 1 (.int .i64 b.supply)).set 2 (.int .i64 b.burnt)).set 3 (.int .i64 b.pot))
  have D3 := Lib.hid ((((D2.out.setCell (p := ⟨w.heap.size + 1 + 1, 0, none⟩) (Nat.le_of_eq hz1) (.int .i64 b.season)).setCell (p := ⟨w.heap.size + 1 + 1, 1, none⟩) (Nat.le_of_eq hz1) (.int .i64 b.supply)).setCell (p := ⟨w.heap.size + 1 + 1, 2, none⟩) (Nat.le_of_eq hz1) (.int .i64 b.burnt)).setCell (p := ⟨w.heap.size + 1 + 1, 3, none⟩) (Nat.le_of_eq hz1) (.int .i64 b.pot))
  clear O2 D2
  go_enter Tryz.func6, Tryz.ntmps6
  go_wp2_with fail
  obtain ⟨V1, hV1⟩ : ∃ W, (((W2.setCell ⟨w.heap.size + 1 + 1, 0, none⟩ (.int .i64 b.season)).setCell ⟨w.heap.size + 1 + 1, 1, none⟩ (.int .i64 b.supply)).setCell ⟨w.heap.size + 1 + 1, 2, none⟩ (.int .i64 b.burnt)).setCell ⟨w.heap.size + 1 + 1, 3, none⟩ (.int .i64 b.pot) = W := ⟨_, rfl⟩
  rw [hV1] at O3 D3
  rw [hV1]
  clear hV1 x0 x1 x2 x3 x4 o0 o1 o2 o3 of2 X2 hW2
  have OL3 := O3.out.lt
  refine (toPurseS_any _ (X1.out.below D3.out).book.folk HL.out.fl).mono ?_
  rintro e w1 ⟨rfl, hs1, hb1, hf1, hx1⟩
  have P1 := Lib.hid (show OwnP w1 (w.heap.size + 1 + 1 + 1) (some ⟨V1.heap.size, 0, none⟩) b.folk from ⟨hs1, .inr ⟨_, rfl, OL3, hx1, mine_of_lies hs1 (pcells_length b.folk) hf1⟩⟩)
  have O4 := Lib.hid (O3.out.below hb1)
  have D4 := Lib.hid (below_trans D3.out hb1)
  clear hs1 hb1 hf1 O3 D3
  have O4s := Lib.hid (O4.out.set 4 (.slice (some ⟨V1.heap.size, 0, none⟩) b.folk.length b.folk.length))
  have D4s := Lib.hid (D4.out.setCell (p := ⟨w.heap.size + 1 + 1, 4, none⟩) (Nat.le_of_eq hz1) (.slice (some ⟨V1.heap.size, 0, none⟩) b.folk.length b.folk.length))
  have G1 := gset (gid w1 (some (w.heap.size + 1 + 1))) (o := 4) (.slice (some ⟨V1.heap.size, 0, none⟩) b.folk.length b.folk.length)
  have P1s := Lib.hid (P1.out.grown G1 (by omega))
  have x5 := (X1.out.below D4.out).c5
  have ox := O4.out.has 4 _ rfl
  have oy := O4.out.free
  clear G1
  go_wp2_with fail
  obtain ⟨V2, hV2⟩ : ∃ W, w1.setCell ⟨w.heap.size + 1 + 1, 4, none⟩ (.slice (some ⟨V1.heap.size, 0, none⟩) b.folk.length b.folk.length) = W := ⟨_, rfl⟩
  have hs2 : w1.heap.size ≤ V2.heap.size := by rw [← hV2]; simp [World.setCell]
  rw [hV2] at O4s D4s P1s
  rw [hV2]
  clear x5 ox oy hV2 O4 D4 P1
  have OL2 := O4s.out.lt
  refine (toMillS_any _ (X1.out.below D4s.out).book.mills HL.out.ml).mono ?_
  rintro e w2 ⟨rfl, hs2', hb2, hm2, hx2⟩
  have M2 := Lib.hid (show OwnR Mil.cs 5 w2 (w.heap.size + 1 + 1 + 1) (some ⟨V2.heap.size, 0, none⟩) b.mills from ⟨hs2', .inr ⟨_, rfl, OL2, hx2, hm2⟩⟩)
  have O5 := Lib.hid (O4s.out.below hb2)
  have D5 := Lib.hid (below_trans D4s.out hb2)
  have P2 := Lib.hid (P1s.out.below hb2)
  clear hs2' hb2 hm2 O4s D4s P1s
  have O5s := Lib.hid (O5.out.set 5 (.slice (some ⟨V2.heap.size, 0, none⟩) b.mills.length b.mills.length))
  have D5s := Lib.hid (D5.out.setCell (p := ⟨w.heap.size + 1 + 1, 5, none⟩) (Nat.le_of_eq hz1) (.slice (some ⟨V2.heap.size, 0, none⟩) b.mills.length b.mills.length))
  have G2 := gset (gid w2 (some (w.heap.size + 1 + 1))) (o := 5) (.slice (some ⟨V2.heap.size, 0, none⟩) b.mills.length b.mills.length)
  have P2s := Lib.hid (P2.out.grown G2 (by omega))
  have M2s := Lib.hid (M2.out.grown G2 (by omega))
  have x6 := (X1.out.below D5.out).c6
  have ox := O5.out.has 5 _ rfl
  have oy := O5.out.free
  clear G2
  go_wp2_with fail
  obtain ⟨V3, hV3⟩ : ∃ W, w2.setCell ⟨w.heap.size + 1 + 1, 5, none⟩ (.slice (some ⟨V2.heap.size, 0, none⟩) b.mills.length b.mills.length) = W := ⟨_, rfl⟩
  have hs3 : w2.heap.size ≤ V3.heap.size := by rw [← hV3]; simp [World.setCell]
  rw [hV3] at O5s D5s P2s M2s
  rw [hV3]
  clear x6 ox oy hV3 O5 D5 P2 M2
  have OL3 := O5s.out.lt
  refine (toPartS_any _ (X1.out.below D5s.out).book.parts HL.out.pl).mono ?_
  rintro e w3 ⟨rfl, hs3', hb3, hm3, hx3⟩
  have Q3 := Lib.hid (show OwnR Par.cs 3 w3 (w.heap.size + 1 + 1 + 1) (some ⟨V3.heap.size, 0, none⟩) b.parts from ⟨hs3', .inr ⟨_, rfl, OL3, hx3, hm3⟩⟩)
  have O6 := Lib.hid (O5s.out.below hb3)
  have D6 := Lib.hid (below_trans D5s.out hb3)
  have P3 := Lib.hid (P2s.out.below hb3)
  have M3 := Lib.hid (M2s.out.below hb3)
  clear hs3' hb3 hm3 O5s D5s P2s M2s
  have O6s := Lib.hid (O6.out.set 6 (.slice (some ⟨V3.heap.size, 0, none⟩) b.parts.length b.parts.length))
  have D6s := Lib.hid (D6.out.setCell (p := ⟨w.heap.size + 1 + 1, 6, none⟩) (Nat.le_of_eq hz1) (.slice (some ⟨V3.heap.size, 0, none⟩) b.parts.length b.parts.length))
  have G3 := gset (gid w3 (some (w.heap.size + 1 + 1))) (o := 6) (.slice (some ⟨V3.heap.size, 0, none⟩) b.parts.length b.parts.length)
  have P3s := Lib.hid (P3.out.grown G3 (by omega))
  have M3s := Lib.hid (M3.out.grown G3 (by omega))
  have Q3s := Lib.hid (Q3.out.grown G3 (by omega))
  have x7 := (X1.out.below D6.out).c7
  have ox := O6.out.has 6 _ rfl
  have oy := O6.out.free
  clear G3
  go_wp2_with fail
  obtain ⟨V4, hV4⟩ : ∃ W, w3.setCell ⟨w.heap.size + 1 + 1, 6, none⟩ (.slice (some ⟨V3.heap.size, 0, none⟩) b.parts.length b.parts.length) = W := ⟨_, rfl⟩
  have hs4 : w3.heap.size ≤ V4.heap.size := by rw [← hV4]; simp [World.setCell]
  rw [hV4] at O6s D6s P3s M3s Q3s
  rw [hV4]
  clear x7 ox oy hV4 O6 D6 P3 M3 Q3
  have OL4 := O6s.out.lt
  refine (toWaitS_any _ (X1.out.below D6s.out).book.waits HL.out.wl).mono ?_
  rintro e w4 ⟨rfl, hs4', hb4, hm4, hx4⟩
  have A4 := Lib.hid (show OwnR Wai.cs 4 w4 (w.heap.size + 1 + 1 + 1) (some ⟨V4.heap.size, 0, none⟩) b.waits from ⟨hs4', .inr ⟨_, rfl, OL4, hx4, hm4⟩⟩)
  have O7 := Lib.hid (O6s.out.below hb4)
  have D7 := Lib.hid (below_trans D6s.out hb4)
  have P4 := Lib.hid (P3s.out.below hb4)
  have M4 := Lib.hid (M3s.out.below hb4)
  have Q4 := Lib.hid (Q3s.out.below hb4)
  clear hs4' hb4 hm4 O6s D6s P3s M3s Q3s
  have O7s := Lib.hid (O7.out.set 7 (.slice (some ⟨V4.heap.size, 0, none⟩) b.waits.length b.waits.length))
  have D7s := Lib.hid (D7.out.setCell (p := ⟨w.heap.size + 1 + 1, 7, none⟩) (Nat.le_of_eq hz1) (.slice (some ⟨V4.heap.size, 0, none⟩) b.waits.length b.waits.length))
  have ox := O7.out.has 7 _ rfl
  have oy := O7.out.free
  have G4 := gset (gid w4 (some (w.heap.size + 1 + 1))) (o := 7) (.slice (some ⟨V4.heap.size, 0, none⟩) b.waits.length b.waits.length)
  have P4s := Lib.hid (P4.out.grown G4 (by omega))
  have M4s := Lib.hid (M4.out.grown G4 (by omega))
  have Q4s := Lib.hid (Q4.out.grown G4 (by omega))
  have A4s := Lib.hid (A4.out.grown G4 (by omega))
  obtain ⟨V5, hV5⟩ : ∃ W, w4.setCell ⟨w.heap.size + 1 + 1, 7, none⟩ (.slice (some ⟨V4.heap.size, 0, none⟩) b.waits.length b.waits.length) = W := ⟨_, rfl⟩
  rw [hV5] at O7s D7s P4s M4s Q4s A4s
  have R5 := Lib.hid (R1.out.below D7s.out)
  clear G4 O7 D7 P4 M4 Q4 A4
  have o0 := O7s.out.has 0 _ rfl
  have o1 := O7s.out.has 1 _ rfl
  have o2 := O7s.out.has 2 _ rfl
  have o3 := O7s.out.has 3 _ rfl
  have o4 := O7s.out.has 4 _ rfl
  have o5 := O7s.out.has 5 _ rfl
  have o6 := O7s.out.has 6 _ rfl
  have o7 := O7s.out.has 7 _ rfl
  have r0 := R5.out.has 0 _ rfl
  have r1 := R5.out.has 1 _ rfl
  have r2 := R5.out.has 2 _ rfl
  have r3 := R5.out.has 3 _ rfl
  have r4 := R5.out.has 4 _ rfl
  have r5 := R5.out.has 5 _ rfl
  have r6 := R5.out.has 6 _ rfl
  have r7 := R5.out.has 7 _ rfl
  have rf := R5.out.free
  have G5 := (gset (o := 7) (gset (o := 6) (gset (o := 5) (gset (o := 4) (gset (o := 3) (gset (o := 2) (gset (o := 1) (gset (o := 0) (gid V5 (some (w.heap.size + 1))) (.int .i64 b.season)) (.int .i64 b.supply)) (.int .i64 b.burnt)) (.int .i64 b.pot)) (.slice (some ⟨V1.heap.size, 0, none⟩) b.folk.length b.folk.length)) (.slice (some ⟨V2.heap.size, 0, none⟩) b.mills.length b.mills.length)) (.slice (some ⟨V3.heap.size, 0, none⟩) b.parts.length b.parts.length)) (.slice (some ⟨V4.heap.size, 0, none⟩) b.waits.length b.waits.length))
  have HE := Lib.hid (show OwnB _ w.heap.size b ⟨some ⟨V1.heap.size, 0, none⟩, b.folk.length, some ⟨V2.heap.size, 0, none⟩, b.mills.length, some ⟨V3.heap.size, 0, none⟩, b.parts.length, some ⟨V4.heap.size, 0, none⟩, b.waits.length⟩ from
    ⟨(P4s.out.grown G5 (by omega)).mono (by omega), (M4s.out.grown G5 (by omega)).mono (by omega), (Q4s.out.grown G5 (by omega)).mono (by omega), (A4s.out.grown G5 (by omega)).mono (by omega),
      ApartN.lt (by omega), ApartN.lt (by omega), ApartN.lt (by omega), ApartN.lt (by omega), ApartN.lt (by omega), ApartN.lt (by omega), ⟨.inr ⟨_, rfl⟩, .inr ⟨_, rfl⟩, .inr ⟨_, rfl⟩, .inr ⟨_, rfl⟩, Nat.le_refl _, Nat.le_refl _, Nat.le_refl _, Nat.le_refl _⟩⟩)
  have BE := Lib.hid (Below.setCell (Below.setCell (Below.setCell (Below.setCell (Below.setCell (Below.setCell (Below.setCell (Below.setCell (below_trans E1.out D7s.out) (p := ⟨w.heap.size + 1, 0, none⟩) (by simp) (.int .i64 b.season)) (p := ⟨w.heap.size + 1, 1, none⟩) (by simp) (.int .i64 b.supply)) (p := ⟨w.heap.size + 1, 2, none⟩) (by simp) (.int .i64 b.burnt)) (p := ⟨w.heap.size + 1, 3, none⟩) (by simp) (.int .i64 b.pot)) (p := ⟨w.heap.size + 1, 4, none⟩) (by simp) (.slice (some ⟨V1.heap.size, 0, none⟩) b.folk.length b.folk.length)) (p := ⟨w.heap.size + 1, 5, none⟩) (by simp) (.slice (some ⟨V2.heap.size, 0, none⟩) b.mills.length b.mills.length)) (p := ⟨w.heap.size + 1, 6, none⟩) (by simp) (.slice (some ⟨V3.heap.size, 0, none⟩) b.parts.length b.parts.length)) (p := ⟨w.heap.size + 1, 7, none⟩) (by simp) (.slice (some ⟨V4.heap.size, 0, none⟩) b.waits.length b.waits.length))
  clear G5
  go_wp2
  exact bodyPost_ret (v := .agg #[.int .i64 b.season, .int .i64 b.supply, .int .i64 b.burnt, .int .i64 b.pot, .slice (some ⟨V1.heap.size, 0, none⟩) b.folk.length b.folk.length, .slice (some ⟨V2.heap.size, 0, none⟩) b.mills.length b.mills.length, .slice (some ⟨V3.heap.size, 0, none⟩) b.parts.length b.parts.length, .slice (some ⟨V4.heap.size, 0, none⟩) b.waits.length b.waits.length]) (by simp [results, Tryz.results6, go_sem, r0, r1, r2, r3, r4, r5, r6, r7]) rfl ⟨_, rfl, HE.out, BE.out⟩

set_option maxHeartbeats 1000000 in
set_option maxRecDepth 100000 in
theorem eqBook_same {w : World} {b : Bok} {s s' : Spots} (h : BookAt w b s) (h' : BookAt w b s') (hl : BLen b) :
    Calls Tryz.prog 8 #[.agg #[.int .i64 b.season, .int .i64 b.supply, .int .i64 b.burnt, .int .i64 b.pot, .slice s.fa b.folk.length s.fc, .slice s.ma b.mills.length s.mc, .slice s.pa b.parts.length s.pc, .slice s.wa b.waits.length s.wc], .agg #[.int .i64 b.season, .int .i64 b.supply, .int .i64 b.burnt, .int .i64 b.pot, .slice s'.fa b.folk.length s'.fc, .slice s'.ma b.mills.length s'.mc, .slice s'.pa b.parts.length s'.pc, .slice s'.wa b.waits.length s'.wc]] w fun e w' => e = .returned (.bool true) ∧ Below w.heap.size w w' := by
  have X0 := Lib.hid ((BoxB.new h 35).below (below_new _ (.cells #[.int .i64 b.season, .int .i64 b.supply, .int .i64 b.burnt, .int .i64 b.pot, .slice s'.fa b.folk.length s'.fc, .slice s'.ma b.mills.length s'.mc, .slice s'.pa b.parts.length s'.pc, .slice s'.wa b.waits.length s'.wc] 35)))
  have Y0 := Lib.hid (BoxB.new (h'.below (below_new w (.cells #[.int .i64 b.season, .int .i64 b.supply, .int .i64 b.burnt, .int .i64 b.pot, .slice s.fa b.folk.length s.fc, .slice s.ma b.mills.length s.mc, .slice s.pa b.parts.length s.pc, .slice s.wa b.waits.length s.wc] 35))) 35)
  have B0 := Lib.hid (below_trans (below_new w (.cells #[.int .i64 b.season, .int .i64 b.supply, .int .i64 b.burnt, .int .i64 b.pot, .slice s.fa b.folk.length s.fc, .slice s.ma b.mills.length s.mc, .slice s.pa b.parts.length s.pc, .slice s.wa b.waits.length s.wc] 35)) (below_new _ (.cells #[.int .i64 b.season, .int .i64 b.supply, .int .i64 b.burnt, .int .i64 b.pot, .slice s'.fa b.folk.length s'.fc, .slice s'.ma b.mills.length s'.mc, .slice s'.pa b.parts.length s'.pc, .slice s'.wa b.waits.length s'.wc] 35)))
  have HL := Lib.hid hl
  clear h h' hl
  go_enter Tryz.func8, Tryz.ntmps8
  go_wp2_with fail
  refine (eqPurseS_same _ _ X0.out.book.folk Y0.out.book.folk HL.out.fl).mono ?_
  rintro e w1 ⟨rfl, hb1⟩
  have X1 := Lib.hid (X0.out.below hb1)
  have Y1 := Lib.hid (Y0.out.below hb1)
  have B1 := Lib.hid (below_trans B0.out hb1)
  clear hb1 X0 Y0 B0
  have c5 := X1.out.c5
  have d5 := Y1.out.c5
  simp only [World.size_alloc] at d5
  go_wp2_with fail
  refine (eqMillS_same _ _ X1.out.book.mills Y1.out.book.mills HL.out.ml).mono ?_
  rintro e w2 ⟨rfl, hb2⟩
  have X2 := Lib.hid (X1.out.below hb2)
  have Y2 := Lib.hid (Y1.out.below hb2)
  have B2 := Lib.hid (below_trans B1.out hb2)
  clear hb2 X1 Y1 B1 c5 d5
  have c6 := X2.out.c6
  have d6 := Y2.out.c6
  simp only [World.size_alloc] at d6
  go_wp2_with fail
  refine (eqPartS_same _ _ X2.out.book.parts Y2.out.book.parts HL.out.pl).mono ?_
  rintro e w3 ⟨rfl, hb3⟩
  have X3 := Lib.hid (X2.out.below hb3)
  have Y3 := Lib.hid (Y2.out.below hb3)
  have B3 := Lib.hid (below_trans B2.out hb3)
  clear hb3 X2 Y2 B2 c6 d6
  have c7 := X3.out.c7
  have d7 := Y3.out.c7
  simp only [World.size_alloc] at d7
  go_wp2_with fail
  refine (eqWaitS_same _ _ X3.out.book.waits Y3.out.book.waits HL.out.wl).mono ?_
  rintro e w4 ⟨rfl, hb4⟩
  have B4 := Lib.hid (below_trans B3.out hb4)
  clear hb4 X3 Y3 B3 c7 d7
  go_wp2
  go_ret
  exact ⟨rfl, B4.out⟩
end Go.Proofs.YtncandoohlndnaaGreat
namespace Go.Proofs.YtncandoohlndnaaGreat
open Go.ChangeShapes Go.WideShapes Go.ChangeAt Go.RowKit
set_option maxHeartbeats 1000000 in
set_option maxRecDepth 100000 in
theorem allOf_any (lim x y z : Int) (B : Nat) (w : World)
    (h0 : w.cell? ⟨B, 0, none⟩ = some (.int .i64 x)) (h1 : w.cell? ⟨B, 1, none⟩ = some (.int .i64 y)) (h2 : w.cell? ⟨B, 2, none⟩ = some (.int .i64 z)) :
    Calls Tryz.prog 64 #[.func (Fn.func 63) #[.int .i64 lim] #[], .slice (some ⟨B, 0, none⟩) 3 3] w fun e w' => e = .returned (.bool (inB 0 lim x && (inB 0 lim y && inB 0 lim z))) ∧ w = w' := by
  cases hx : inB 0 lim x
  · go_enter Tryz.func64, Tryz.ntmps64
    go_wp2
    refine wp_loop_rounds 4 ?_
    rw [rounds_succ]
    go_wp2_with (go_at_call 63; refine (within_any _ _ _).mono ?_; rintro e w' ⟨rfl, rfl⟩; rw [hx])
    go_ret
    exact ⟨rfl, rfl⟩
  · cases hy : inB 0 lim y
    · go_enter Tryz.func64, Tryz.ntmps64
      go_wp2
      refine wp_loop_rounds 4 ?_
      rw [rounds_succ]
      go_wp2_with (go_at_call 63; refine (within_any _ _ _).mono ?_; rintro e w' ⟨rfl, rfl⟩; rw [hx])
      rw [rounds_succ]
      go_wp2_with (go_at_call 63; refine (within_any _ _ _).mono ?_; rintro e w' ⟨rfl, rfl⟩; rw [hy])
      go_ret
      exact ⟨rfl, rfl⟩
    · cases hz : inB 0 lim z
      · go_enter Tryz.func64, Tryz.ntmps64
        go_wp2
        refine wp_loop_rounds 4 ?_
        rw [rounds_succ]
        go_wp2_with (go_at_call 63; refine (within_any _ _ _).mono ?_; rintro e w' ⟨rfl, rfl⟩; rw [hx])
        rw [rounds_succ]
        go_wp2_with (go_at_call 63; refine (within_any _ _ _).mono ?_; rintro e w' ⟨rfl, rfl⟩; rw [hy])
        rw [rounds_succ]
        go_wp2_with (go_at_call 63; refine (within_any _ _ _).mono ?_; rintro e w' ⟨rfl, rfl⟩; rw [hz])
        go_ret
        exact ⟨rfl, rfl⟩
      · go_enter Tryz.func64, Tryz.ntmps64
        go_wp2
        refine wp_loop_rounds 4 ?_
        rw [rounds_succ]
        go_wp2_with (go_at_call 63; refine (within_any _ _ _).mono ?_; rintro e w' ⟨rfl, rfl⟩; rw [hx])
        rw [rounds_succ]
        go_wp2_with (go_at_call 63; refine (within_any _ _ _).mono ?_; rintro e w' ⟨rfl, rfl⟩; rw [hy])
        rw [rounds_succ]
        go_wp2_with (go_at_call 63; refine (within_any _ _ _).mono ?_; rintro e w' ⟨rfl, rfl⟩; rw [hz])
        rw [rounds_succ]
        go_wp2
        go_ret
        exact ⟨rfl, rfl⟩
end Go.Proofs.YtncandoohlndnaaGreat
namespace Go.Proofs.YtncandoohlndnaaGreat
open Go.ChangeShapes Go.WideShapes Go.ChangeAt Go.RowKit

theorem prod_bd (a b : Int) (ha : 0 ≤ a) (ha2 : a ≤ 1000000000) (hb : 0 ≤ b) (hb2 : b ≤ 1000000000) : 0 ≤ a * b ∧ a * b ≤ 1000000000000000000 :=
  ⟨Int.mul_nonneg ha hb, by have := Int.mul_le_mul ha2 hb2 hb (by omega); omega⟩

theorem inB_false {lo hi x : Int} (h : inB lo hi x = false) : x < lo ∨ hi < x := by
  simp only [inB, decide_eq_false_iff_not] at h; omega
theorem inB_not {lo hi x : Int} (h : x < lo ∨ hi < x) : inB lo hi x = false := by
  simp only [inB, decide_eq_false_iff_not]; omega

def okD (a b c : Int) : Bool := inB 0 1000000000 a && (inB 0 1000000000 b && inB 1 1000000000 c)
def downV (a b c : Int) : Int := if okD a b c = true then a * b / c else -1
def upV (a b c : Int) : Int := if okD a b c = true then (if a * b % c = 0 then a * b / c else a * b / c + 1) else -1
def partV (n p : Int) : Int := if (inB 0 1000000 n && inB 0 100 p) = true then n * p / 100 else -1

theorem okD_true {a b c : Int} (h : okD a b c = true) : 0 ≤ a ∧ a ≤ 1000000000 ∧ 0 ≤ b ∧ b ≤ 1000000000 ∧ 1 ≤ c ∧ c ≤ 1000000000 := by
  simp only [okD, Bool.and_eq_true] at h
  obtain ⟨h1, h2, h3⟩ := h
  have := inB_true h1; have := inB_true h2; have := inB_true h3; omega

theorem ret_int {k : IntKind} {a b : Int} (h : a = b) : Ending.returned (.int k a) = .returned (.int k b) := by rw [h]

theorem downV_bd {a b c : Int} (h : okD a b c = true) : 0 ≤ a * b ∧ a * b ≤ 1000000000000000000 ∧ 0 ≤ a * b / c ∧ a * b / c ≤ 1000000000000000000 ∧ 0 ≤ a * b / c * c ∧ a * b / c * c ≤ 1000000000000000000 := by
  obtain ⟨ha, ha2, hb, hb2, hc, hc2⟩ := okD_true h
  obtain ⟨hp, hp2⟩ := prod_bd a b ha ha2 hb hb2
  have h1 : 0 ≤ a * b / c := Int.ediv_nonneg hp (by omega)
  have h2 : a * b / c ≤ a * b := Int.ediv_le_self _ hp
  have h3 : a * b / c * c ≤ a * b := Int.ediv_mul_le _ (by omega)
  have h4 : 0 ≤ a * b / c * c := Int.mul_nonneg h1 (by omega)
  omega

theorem left_over {a b c : Int} (h : okD a b c = true) : (a * b / c * c < a * b) ↔ ¬ a * b % c = 0 := by
  obtain ⟨ha, ha2, hb, hb2, hc, hc2⟩ := okD_true h
  have h1 := Int.mul_ediv_add_emod (a * b) c
  rw [Int.mul_comm c] at h1
  have h2 := Int.emod_nonneg (a * b) (show c ≠ 0 by omega)
  generalize a * b / c * c = p at *
  generalize a * b % c = r at *
  omega

end Go.Proofs.YtncandoohlndnaaGreat
namespace Go.Proofs.YtncandoohlndnaaGreat
open Go.ChangeShapes Go.WideShapes Go.ChangeAt Go.RowKit

/-- A right mill. -/
def millB (m : Mil) : Bool := nameB m.name && (inB 0 1000000 m.stake && (inB 0 1000000000 m.shares && ((m.stake == 0 || decide (0 < m.shares)) && inB 0 100 m.cut)))

set_option maxHeartbeats 2000000 in
set_option maxRecDepth 100000 in
theorem sMillOk_any (m : Mil) (w : World) (hs : m.name.size ≤ maxLen) :
    Calls Tryz.prog 81 #[.agg #[.string m.name, .int .i64 m.stake, .int .i64 m.shares, .int .i64 m.cut, .bool m.shut]] w fun e w' => e = .returned (.bool (millB m)) ∧ Below w.heap.size w w' := by
  have HS := Lib.hid hs
  clear hs
  have HN : Hid (millB m = (nameB m.name && (inB 0 1000000 m.stake && (inB 0 1000000000 m.shares && ((m.stake == 0 || decide (0 < m.shares)) && inB 0 100 m.cut))))) := rfl
  cases h1 : nameB m.name
  · go_enter Tryz.func81, Tryz.ntmps81
    go_wp2_with (go_at_call 80; refine (sNameOk_any _ _ HS.out).mono ?_; rintro e w' ⟨rfl, rfl⟩; rw [h1])
    go_ret
    exact ⟨by rw [HN.out, h1]; rfl, below_new _ _⟩
  · cases h2 : inB 0 1000000 m.stake
    · go_enter Tryz.func81, Tryz.ntmps81
      go_wp2_with (first | (go_at_call 80; refine (sNameOk_any _ _ HS.out).mono ?_; rintro e w' ⟨rfl, rfl⟩; rw [h1]) | (go_at_call 57; refine (sAmountOk_any _ _).mono ?_; rintro e w' ⟨rfl, rfl⟩; rw [h2]))
      go_ret
      exact ⟨by rw [HN.out, h1, h2]; rfl, below_new _ _⟩
    · cases h3 : inB 0 1000000000 m.shares
      · go_enter Tryz.func81, Tryz.ntmps81
        go_wp2_with (first | (go_at_call 80; refine (sNameOk_any _ _ HS.out).mono ?_; rintro e w' ⟨rfl, rfl⟩; rw [h1]) | (go_at_call 57; refine (sAmountOk_any _ _).mono ?_; rintro e w' ⟨rfl, rfl⟩; rw [h2]) | (go_at_call 97; refine (sSharesOk_any _ _).mono ?_; rintro e w' ⟨rfl, rfl⟩; rw [h3]))
        go_ret
        exact ⟨by rw [HN.out, h1, h2, h3]; rfl, below_new _ _⟩
      · cases h4 : (m.stake == 0) <;> cases h5 : decide (0 < m.shares)
        · go_enter Tryz.func81, Tryz.ntmps81
          go_wp2_with (first | (go_at_call 80; refine (sNameOk_any _ _ HS.out).mono ?_; rintro e w' ⟨rfl, rfl⟩; rw [h1]) | (go_at_call 57; refine (sAmountOk_any _ _).mono ?_; rintro e w' ⟨rfl, rfl⟩; rw [h2]) | (go_at_call 97; refine (sSharesOk_any _ _).mono ?_; rintro e w' ⟨rfl, rfl⟩; rw [h3]))
          go_ret
          exact ⟨by rw [HN.out, h1, h2, h3, h4, h5]; rfl, below_new _ _⟩
        all_goals
          cases h6 : inB 0 100 m.cut
          all_goals
            go_enter Tryz.func81, Tryz.ntmps81
            go_wp2_with (first | (go_at_call 80; refine (sNameOk_any _ _ HS.out).mono ?_; rintro e w' ⟨rfl, rfl⟩; rw [h1]) | (go_at_call 57; refine (sAmountOk_any _ _).mono ?_; rintro e w' ⟨rfl, rfl⟩; rw [h2]) | (go_at_call 97; refine (sSharesOk_any _ _).mono ?_; rintro e w' ⟨rfl, rfl⟩; rw [h3]) | (go_at_call 56; refine (l1In_any _ _ _ _).mono ?_; rintro e w' ⟨rfl, rfl⟩; rw [h6]))
            go_ret
            exact ⟨by rw [HN.out, h1, h2, h3, h4, h5, h6]; rfl, below_new _ _⟩

/-- Their names. -/
def mnames (ms : List Mil) : List ByteArray := ms.map Mil.name
theorem len_mn (ms : List Mil) : (mnames ms).length = ms.length := by simp [mnames]
theorem mnames_at {ms : List Mil} {k : Nat} (h : k < ms.length) : sat (mnames ms) k = ms[k].name := by
  rw [sat_eq (by rw [len_mn]; exact h)]; simp [mnames]
/-- The first n are right. -/
def MRight (ms : List Mil) (n : Nat) : Prop := ∀ j (h : j < ms.length), j < n → millB ms[j] = true
instance (ms : List Mil) (n : Nat) : Decidable (MRight ms n) := inferInstanceAs (Decidable (∀ j (h : j < ms.length), j < n → millB ms[j] = true))
/-- They are mills. -/
def millsB (ms : List Mil) : Bool := decide (ms.length ≤ 4 ∧ MRight ms ms.length ∧ risesB (mnames ms) = true)
theorem mills_true {ms : List Mil} (h : millsB ms = true) : ms.length ≤ 4 ∧ MRight ms ms.length ∧ risesB (mnames ms) = true := by simpa [millsB] using h
theorem mills_yes {ms : List Mil} (h : ms.length ≤ 4) (h1 : MRight ms ms.length) (h2 : risesB (mnames ms) = true) : millsB ms = true := by simp [millsB, h, h1, h2]
theorem mills_long {ms : List Mil} (h : ¬ ms.length ≤ 4) : millsB ms = false := by simp [millsB]; omega
theorem mills_not {ms : List Mil} {k : Nat} (hk : k < ms.length) (h : millB ms[k] = false) : millsB ms = false := by
  simp only [millsB, decide_eq_false_iff_not]; rintro ⟨_, h1, _⟩; rw [h1 k hk hk] at h; cases h
theorem mills_rise {ms : List Mil} (h : risesB (mnames ms) = false) : millsB ms = false := by
  simp only [millsB, decide_eq_false_iff_not]; rintro ⟨_, _, h1⟩; rw [h1] at h; cases h
theorem MRight.zero (ms : List Mil) : MRight ms 0 := fun _ _ h => by omega
theorem MRight.succ {ms : List Mil} {k : Nat} (h : MRight ms k) (hk : k < ms.length) (h1 : millB ms[k] = true) : MRight ms (k + 1) := by
  intro j hj hlt
  by_cases e : j = k
  · subst e; exact h1
  · exact h j hj (by omega)
theorem millB_name {m : Mil} (h : millB m = true) : nameB m.name = true := by
  simp only [millB, Bool.and_eq_true] at h; exact h.1

set_option maxHeartbeats 2000000 in
set_option maxRecDepth 100000 in
theorem sMillsOk_any {w : World} {a : Option Addr} {ms : List Mil} (cap : Nat) (h : Recs Mil.cs w a ms) (hl : ms.length ≤ 9223372036854775807) (hs : Sized (mnames ms)) :
    Calls Tryz.prog 53 #[.slice a ms.length cap] w fun e w' => e = .returned (.bool (millsB ms)) ∧ Below w.heap.size w w' := by
  have H := Lib.hid h
  have HS := Lib.hid hs
  clear h hs
  go_enter Tryz.func53, Tryz.ntmps53
  go_wp2
  go_loopw [3] (fun i w' => ∃ (k : Nat), k ≤ ms.length ∧ i = .int .i64 k ∧ Below w.heap.size w w' ∧ Up (mnames ms) k ∧ MRight ms k) (fun i _ => ms.length - (intOf i).toNat)
  case atStart => exact ⟨0, Nat.zero_le _, rfl, Below.refl _ _, Up.zero _, MRight.zero _⟩
  case round =>
    obtain ⟨k, hk, rfl, hb, hu, hm⟩ := hrel
    have HB := Lib.hid hb
    have HU := Lib.hid hu
    have HM := Lib.hid hm
    clear hu hm hb
    by_cases hlt : k < ms.length
    · obtain ⟨b, off, rfl, hlb, hc0, hc1, hc2, hc3, hc4⟩ := Mil.at (H.out.below HB.out) k hlt
      have HA := Lib.hid (mnames_at hlt)
      have hsz : Hid (ms[k].name.size ≤ maxLen) := by have := HS.out k; rw [HA.out] at this; exact this
      have hlp : k < (mnames ms).length := by rw [len_mn]; exact hlt
      have e0 := Grow.cell hc0
      have e1 := Grow.cell hc1
      have e2 := Grow.cell hc2
      have e3 := Grow.cell hc3
      have e4 := Grow.cell hc4
      cases hn : millB ms[k]
      · have HN := Lib.hid (mills_not hlt hn)
        go_wp2
        refine wp_region_grow (by kernel_rfl) (by kernel_rfl) ?_
        repeat (go_big_quiet_step ((go_at_call 81; exact grow_call (bool_is hn) (sMillOk_any ms[k] _ hsz.out))))
        refine wpQuiet_nil ?_
        intro _ hw'
        obtain ⟨gq, rfl⟩ := hw'
        have HB2 := Lib.hid (below_trans HB.out gq.ok)
        go_wp2
        go_ret
        exact ⟨by rw [HN.out]; rfl, HB2.out⟩
      · have HN2 := Lib.hid (HM.out.succ hlt hn)
        have HNM := Lib.hid (millB_name hn)
        cases k with
        | zero =>
          have HN := Lib.hid (Up.one (ss := mnames ms) (by rw [HA.out]; exact HNM.out))
          simp only [Nat.zero_mul, Nat.add_zero] at e0 e1 e2 e3 e4
          go_wp2
          refine wp_region_grow (by kernel_rfl) (by kernel_rfl) ?_
          repeat (go_big_quiet_step ((go_at_call 81; exact grow_call (bool_is hn) (sMillOk_any ms[0] _ hsz.out))))
          refine wpQuiet_nil ?_
          intro _ hw'
          obtain ⟨gq, rfl⟩ := hw'
          have HB2 := Lib.hid (below_trans HB.out gq.ok)
          go_wp2
          go_roundw
          case rel => exact ⟨1, by omega, by go_num, HB2.out, HN.out, HN2.out⟩
          case measure => simp [intOf]; omega
        | succ m =>
          obtain ⟨b', off', e', _, hd0, -⟩ := Mil.at (H.out.below HB.out) m (by omega)
          obtain ⟨rfl, rfl⟩ : b' = b ∧ off' = off := by injection e' with e'; injection e' with e1 e2; exact ⟨e1.symm, e2.symm⟩
          clear e'
          have f0 := Grow.cell hd0
          have HA' := Lib.hid (mnames_at (ms := ms) (k := m) (by omega))
          cases hq : (Op.bytesLess (ms[m + 1]).name.toList (ms[m]).name.toList || (ms[m + 1]).name.toList == (ms[m]).name.toList)
          · have HN := Lib.hid (HU.out.succ (by rw [HA.out]; exact HNM.out) (by rw [HA.out, HA'.out]; exact hq))
            go_wp2
            refine wp_region_grow (by kernel_rfl) (by kernel_rfl) ?_
            repeat (go_big_quiet_step ((go_at_call 81; exact grow_call (bool_is hn) (sMillOk_any ms[m + 1] _ hsz.out))))
            refine wpQuiet_nil ?_
            intro _ hw'
            obtain ⟨gq, rfl⟩ := hw'
            have HB2 := Lib.hid (below_trans HB.out gq.ok)
            go_wp2
            go_roundw
            case rel => exact ⟨m + 2, by omega, by go_num, HB2.out, HN.out, HN2.out⟩
            case measure => simp [intOf]; omega
          · have HN := Lib.hid (mills_rise (rises_not hlp (by rw [HA.out, HA'.out]; exact hq)))
            go_wp2
            refine wp_region_grow (by kernel_rfl) (by kernel_rfl) ?_
            repeat (go_big_quiet_step ((go_at_call 81; exact grow_call (bool_is hn) (sMillOk_any ms[m + 1] _ hsz.out))))
            refine wpQuiet_nil ?_
            intro _ hw'
            obtain ⟨gq, rfl⟩ := hw'
            have HB2 := Lib.hid (below_trans HB.out gq.ok)
            go_wp2
            go_ret
            exact ⟨by rw [HN.out]; rfl, HB2.out⟩
    · obtain rfl : k = ms.length := by omega
      by_cases h4 : ms.length ≤ 4
      · have HN := Lib.hid (mills_yes h4 HM.out (rises_yes (by rw [len_mn]; exact HU.out)))
        go_wp2
        go_ret
        exact ⟨by rw [HN.out]; simp; omega, HB.out⟩
      · have HN := Lib.hid (mills_long h4)
        go_wp2
        go_ret
        exact ⟨by rw [HN.out]; simp; omega, HB.out⟩
end Go.Proofs.YtncandoohlndnaaGreat
namespace Go.Proofs.YtncandoohlndnaaGreat
open Go.ChangeShapes Go.WideShapes Go.ChangeAt Go.RowKit

theorem millB_parts {m : Mil} (h : millB m = true) : (0 ≤ m.stake ∧ m.stake ≤ 1000000) ∧ (0 ≤ m.shares ∧ m.shares ≤ 1000000000) ∧ (m.stake = 0 ∨ 0 < m.shares) ∧ (0 ≤ m.cut ∧ m.cut ≤ 100) := by
  simp only [millB, Bool.and_eq_true, Bool.or_eq_true, beq_iff_eq, decide_eq_true_eq] at h
  obtain ⟨_, h1, h2, h3, h4⟩ := h
  have := inB_true h1
  have := inB_true h2
  have := inB_true h4
  exact ⟨by omega, by omega, h3, by omega⟩

set_option maxHeartbeats 1000000 in
set_option maxRecDepth 100000 in
theorem l4Find_any {w : World} {a : Option Addr} {ms : List Mil} (cap : Nat) (s : ByteArray) (h : Recs Mil.cs w a ms) (hl : ms.length ≤ 9223372036854775807) :
    Calls Tryz.prog 58 #[.slice a ms.length cap, .string s] w fun e w' => e = .returned (.int .i64 (placeV (mnames ms) s)) ∧ w = w' := by
  have H := Lib.hid h
  clear h
  go_enter Tryz.func58, Tryz.ntmps58
  go_wp2
  go_loop [5] (fun i => ∃ k : Nat, k ≤ ms.length ∧ i = .int .i64 k ∧ Out (mnames ms) s k) (fun i => ms.length - (intOf i).toNat)
  case atStart => exact ⟨0, Nat.zero_le _, rfl, Out.zero _ s⟩
  case round =>
    obtain ⟨k, hk, rfl, hu⟩ := hrel
    have HU := Lib.hid hu
    clear hu
    by_cases hlt : k < ms.length
    · obtain ⟨b, off, rfl, _, hc, -⟩ := Mil.at H.out k hlt
      have HA := Lib.hid (mnames_at hlt)
      cases hq : (ms[k].name.toList == s.toList)
      · have HN := Lib.hid (HU.out.succ (by rw [HA.out]; exact hq))
        go_wp2
        go_round
        case rel => exact ⟨k + 1, by omega, by go_num, HN.out⟩
        case measure => simp [intOf]; omega
      · have HN := Lib.hid (place_in (by rw [len_mn]; exact hlt) HU.out (by rw [HA.out]; exact hq))
        go_wp2
        go_ret
        exact ⟨by rw [HN.out]; rfl, rfl⟩
    · obtain rfl : k = ms.length := by omega
      have HN := Lib.hid (place_out (ss := mnames ms) (s := s) (by rw [len_mn]; exact HU.out))
      go_wp2
      go_ret
      exact ⟨by rw [HN.out]; rfl, rfl⟩

def mil0 : Mil := ⟨ByteArray.empty, 0, 0, 0, false⟩
/-- That mill, if it is there. -/
def millInB (ms : List Mil) (s : ByteArray) : Bool := millsB ms && decide (0 ≤ placeV (mnames ms) s)
def millInV (ms : List Mil) (s : ByteArray) : Mil := if millInB ms s then ms.getD (placeV (mnames ms) s).toNat mil0 else mil0
theorem millIn_no {ms : List Mil} {s : ByteArray} (h : millsB ms = false) : millInB ms s = false ∧ millInV ms s = mil0 := by simp [millInB, millInV, h]
theorem millIn_out {ms : List Mil} {s : ByteArray} (h : ¬ 0 ≤ placeV (mnames ms) s) : millInB ms s = false ∧ millInV ms s = mil0 := by simp [millInB, millInV, h]
theorem millIn_in {ms : List Mil} {s : ByteArray} {k : Nat} (h : millsB ms = true) (e : placeV (mnames ms) s = k) (hk : k < ms.length) : millInB ms s = true ∧ millInV ms s = ms[k] := by
  have h1 : millInB ms s = true := by simp [millInB, h, e]
  refine ⟨h1, ?_⟩
  rw [millInV, if_pos h1, e]
  simp [hk]
theorem mplace_lo (ms : List Mil) (s : ByteArray) : -1 ≤ placeV (mnames ms) s := (placeUp_bd (mnames ms) s (mnames ms).length).1

/-- A mill and a word come back. -/
def MillRes (m : Mil) (b : Bool) (w : World) (e : Ending) (w' : World) : Prop :=
  e = .returned (.tuple #[.agg #[.string m.name, .int .i64 m.stake, .int .i64 m.shares, .int .i64 m.cut, .bool m.shut], .bool b]) ∧ Below w.heap.size w w'

/-- What those shares are worth. -/
def worthV (m : Mil) (n : Int) : Int := if (millB m && inB 0 m.shares n) = true then (if m.shares = 0 then 0 else downV n m.stake m.shares) else -1

section
variable {m : Mil} {n : Int}
theorem worth_no (h : millB m = false) : worthV m n = -1 := by simp [worthV, h]
theorem worth_not (h : inB 0 m.shares n = false) : worthV m n = -1 := by simp [worthV, h]
theorem worth_zero (h : millB m = true) (h1 : inB 0 m.shares n = true) (h2 : m.shares = 0) : worthV m n = 0 := by rw [worthV, if_pos (by rw [h, h1]; rfl), if_pos h2]
theorem worth_down (h : millB m = true) (h1 : inB 0 m.shares n = true) (h2 : ¬ m.shares = 0) : worthV m n = downV n m.stake m.shares := by rw [worthV, if_pos (by rw [h, h1]; rfl), if_neg h2]
end

/-- How many shares that amount would buy. -/
def buyV (m : Mil) (n : Int) : Int := if 0 < m.shares then downV n m.shares m.stake else 1000 * n
def buyB (m : Mil) (n : Int) : Bool := millB m && (inB 1 1000000 n && !(decide (0 < m.shares) && m.stake == 0))
/-- How many shares that amount buys. -/
def sharesForV (m : Mil) (n : Int) : Int := if (buyB m n && inB 0 1000000000 (m.shares + buyV m n)) = true then buyV m n else -1
section
variable {m : Mil} {n : Int}
theorem for_no (h : buyB m n = false) : sharesForV m n = -1 := by simp [sharesForV, h]
theorem for_over (h : inB 0 1000000000 (m.shares + buyV m n) = false) : sharesForV m n = -1 := by simp [sharesForV, h]
theorem for_yes (h : buyB m n = true) (h2 : inB 0 1000000000 (m.shares + buyV m n) = true) : sharesForV m n = buyV m n := by simp [sharesForV, h, h2]
theorem buy_mill (h : millB m = false) : buyB m n = false := by simp [buyB, h]
theorem buy_n (h : inB 1 1000000 n = false) : buyB m n = false := by simp [buyB, h]
theorem buy_none (h1 : 0 < m.shares) (h : m.stake = 0) : buyB m n = false := by simp [buyB, h, h1]
theorem buy_yes (h : millB m = true) (h1 : inB 1 1000000 n = true) (h2 : ¬ (0 < m.shares ∧ m.stake = 0)) : buyB m n = true := by
  simp only [buyB, h, h1, Bool.true_and, Bool.not_eq_true', Bool.and_eq_false_iff, decide_eq_false_iff_not, beq_eq_false_iff_ne]
  by_cases h3 : 0 < m.shares
  · exact .inr (fun e => h2 ⟨h3, e⟩)
  · exact .inl h3
theorem buy_bd (h : millB m = true) (h1 : inB 1 1000000 n = true) (h2 : ¬ (0 < m.shares ∧ m.stake = 0)) : 0 ≤ buyV m n ∧ buyV m n ≤ 1000000000000000000 := by
  have hp := millB_parts h
  have hn := inB_true h1
  unfold buyV
  split
  · have hok : okD n m.shares m.stake = true := by
      simp only [okD, Bool.and_eq_true]
      exact ⟨inB_of (by omega) (by omega), inB_of (by omega) (by omega), inB_of (by omega) (by omega)⟩
    have := downV_bd hok
    rw [downV, if_pos hok]; omega
  · omega
end

/-- All Stakes of the first k. -/
def sumM (ms : List Mil) : Nat → Int
  | 0 => 0
  | k + 1 => sumM ms k + (ms.getD k mil0).stake
def stakesV (ms : List Mil) : Int := if millsB ms = true then sumM ms ms.length else -1
theorem getD_mil {ms : List Mil} {k : Nat} (h : k < ms.length) : ms.getD k mil0 = ms[k] := by simp [h]
theorem sumM_bd {ms : List Mil} (h : MRight ms ms.length) : ∀ k, k ≤ ms.length → 0 ≤ sumM ms k ∧ sumM ms k ≤ 1000000 * k
  | 0, _ => by simp [sumM]
  | k + 1, hk => by
    have h1 := sumM_bd h k (by omega)
    have h2 := (millB_parts (h k (by omega) (by omega))).1
    simp only [sumM, getD_mil (show k < ms.length by omega)]
    omega

set_option maxHeartbeats 1000000 in
set_option maxRecDepth 100000 in
theorem l4Stakes_any {w : World} {a : Option Addr} {ms : List Mil} (cap : Nat) (h : Recs Mil.cs w a ms) (hf : millsB ms = true) :
    Calls Tryz.prog 61 #[.slice a ms.length cap] w fun e w' => e = .returned (.int .i64 (sumM ms ms.length)) ∧ w = w' := by
  obtain ⟨h4, hm, -⟩ := mills_true hf
  have H := Lib.hid h
  have HM := Lib.hid hm
  clear h hm hf
  go_enter Tryz.func61, Tryz.ntmps61
  go_wp2
  go_loop [3, 4] (fun t i => ∃ k : Nat, k ≤ ms.length ∧ i = .int .i64 k ∧ t = .int .i64 (sumM ms k)) (fun _ i => ms.length - (intOf i).toNat)
  case atStart => exact ⟨0, Nat.zero_le _, rfl, rfl⟩
  case round =>
    obtain ⟨k, hk, rfl, rfl⟩ := hrel
    have hb := sumM_bd HM.out k hk
    by_cases hlt : k < ms.length
    · obtain ⟨b, off, rfl, _, c0, c1, -⟩ := Mil.at H.out k hlt
      have HN := Lib.hid (show sumM ms (k + 1) = sumM ms k + ms[k].stake by simp only [sumM, getD_mil hlt])
      have hb3 := (millB_parts (HM.out k hlt hlt)).1
      go_wp2
      go_round
      case rel => exact ⟨k + 1, by omega, by go_num, by rw [HN.out]⟩
      case measure => simp [intOf]; omega
    · obtain rfl : k = ms.length := by omega
      go_wp2
      go_ret
      exact ⟨rfl, rfl⟩

/-- Is a share of x worth less than one of y? -/
def cheapB (x y : Mil) : Bool := millB x && (millB y && (!(x.shares == 0) && (!(y.shares == 0) && decide (x.stake * y.shares < y.stake * x.shares))))
theorem stake_bd {x y : Mil} (hx : millB x = true) (hy : millB y = true) : 0 ≤ x.stake * y.shares ∧ x.stake * y.shares ≤ 1000000000000000000 := by
  have h1 := millB_parts hx
  have h2 := millB_parts hy
  exact prod_bd x.stake y.shares (by omega) (by omega) (by omega) (by omega)

end Go.Proofs.YtncandoohlndnaaGreat
namespace Go.Proofs.YtncandoohlndnaaGreat
open Go.ChangeShapes Go.WideShapes Go.ChangeAt Go.RowKit

/-- The first number below n of which q holds; -1 where there is none. -/
def findUp (q : Nat → Bool) : Nat → Int
  | 0 => -1
  | n + 1 => if findUp q n = -1 then (if q n then (n : Int) else -1) else findUp q n
theorem findUp_congr {q r : Nat → Bool} : ∀ {n : Nat}, (∀ j, j < n → q j = r j) → findUp q n = findUp r n
  | 0, _ => rfl
  | n + 1, h => by
    rw [findUp, findUp, findUp_congr (fun j hj => h j (by omega)), h n (by omega)]
theorem findUp_out {q : Nat → Bool} : ∀ {n : Nat}, (∀ j, j < n → q j = false) → findUp q n = -1
  | 0, _ => rfl
  | n + 1, h => by rw [findUp, if_pos (findUp_out fun j hj => h j (by omega)), h n (by omega)]; rfl
theorem findUp_in {q : Nat → Bool} {k : Nat} (h : ∀ j, j < k → q j = false) (hk : q k = true) : ∀ m, findUp q (k + 1 + m) = k
  | 0 => by rw [Nat.add_zero, findUp, if_pos (findUp_out h), hk]; rfl
  | m + 1 => by
    have := findUp_in h hk m
    rw [← Nat.add_assoc, findUp, this, if_neg (by omega)]
theorem findUp_at {q : Nat → Bool} {k n : Nat} (hn : k < n) (h : ∀ j, j < k → q j = false) (hk : q k = true) : findUp q n = k := by
  have := findUp_in h hk (n - (k + 1))
  rwa [show k + 1 + (n - (k + 1)) = n by omega] at this
theorem findUp_hit {q : Nat → Bool} : ∀ {n : Nat}, 0 ≤ findUp q n → ∃ k : Nat, findUp q n = (k : Int) ∧ k < n ∧ q k = true ∧ ∀ j, j < k → q j = false
  | 0, h => by simp [findUp] at h
  | n + 1, h => by
    by_cases hall : ∀ j, j < n → q j = false
    · cases hq : q n
      · rw [findUp_out (n := n + 1) (fun j hj => by by_cases e : j = n; subst e; exact hq; exact hall j (by omega))] at h
        omega
      · exact ⟨n, findUp_at (by omega) hall hq, by omega, hq, hall⟩
    · have h1 : findUp q n ≠ -1 := fun e => hall fun j hj => by
        cases hqj : q j
        · rfl
        · exfalso
          have : ∀ m, (∃ j, j < m ∧ q j = true) → findUp q m ≠ -1 := by
            intro m
            induction m with
            | zero => rintro ⟨j, hj, _⟩; omega
            | succ m ih =>
              rintro ⟨j, hj, hq⟩
              rw [findUp]
              by_cases hm : ∃ j, j < m ∧ q j = true
              · rw [if_neg (ih hm)]; exact ih hm
              · have : j = m := by
                  by_cases e : j = m
                  · exact e
                  · exact absurd ⟨j, by omega, hq⟩ hm
                subst this
                rw [hq]
                split
                · simp only [if_true]; omega
                · assumption
          exact this n ⟨j, hj, hqj⟩ e
      rw [findUp, if_neg h1] at h ⊢
      obtain ⟨k, e, hk, hq, hj⟩ := findUp_hit (n := n) h
      exact ⟨k, e, by omega, hq, hj⟩
theorem findUp_lo (q : Nat → Bool) : ∀ n, -1 ≤ findUp q n ∧ findUp q n < n
  | 0 => by simp [findUp]
  | n + 1 => by
    have := findUp_lo q n
    rw [findUp]
    split
    · split <;> omega
    · omega
end Go.Proofs.YtncandoohlndnaaGreat
namespace Go.Proofs.YtncandoohlndnaaGreat
open Go.ChangeShapes Go.WideShapes Go.ChangeAt Go.RowKit

/-- Is p ahead of these two names? -/
def lessB (p : Par) (who mill : ByteArray) : Bool := if (p.who.toList == who.toList) = true then Op.bytesLess p.mill.toList mill.toList else Op.bytesLess p.who.toList who.toList
theorem less_same {p : Par} {who mill : ByteArray} (h : (p.who.toList == who.toList) = true) : lessB p who mill = Op.bytesLess p.mill.toList mill.toList := by unfold lessB; rw [if_pos h]
theorem less_other {p : Par} {who mill : ByteArray} (h : (p.who.toList == who.toList) = false) : lessB p who mill = Op.bytesLess p.who.toList who.toList := by unfold lessB; rw [if_neg (by rw [h]; decide)]

set_option maxHeartbeats 1000000 in
set_option maxRecDepth 100000 in
theorem l5Less_any (p : Par) (who mill : ByteArray) (w : World) :
    Calls Tryz.prog 82 #[.agg #[.string p.who, .string p.mill, .int .i64 p.shares], .string who, .string mill] w fun e w' => e = .returned (.bool (lessB p who mill)) ∧ Below w.heap.size w w' := by
  cases h : (p.who.toList == who.toList)
  · have HN := Lib.hid (less_other (mill := mill) h)
    go_enter Tryz.func82, Tryz.ntmps82
    go_wp2
    go_ret
    exact ⟨by rw [HN.out]; rfl, below_new _ _⟩
  · have HN := Lib.hid (less_same (mill := mill) h)
    go_enter Tryz.func82, Tryz.ntmps82
    go_wp2
    go_ret
    exact ⟨by rw [HN.out]; rfl, below_new _ _⟩

/-- A right part. -/
def partB (p : Par) : Bool := nameB p.who && (nameB p.mill && inB 1 1000000000 p.shares)
/-- The first n are right and rise. -/
def PUp (ps : List Par) (n : Nat) : Prop := (∀ j (h : j < ps.length), j < n → partB ps[j] = true) ∧ ∀ j (h : j + 1 < ps.length), j + 1 < n → lessB ps[j] ps[j + 1].who ps[j + 1].mill = true
noncomputable instance (ps : List Par) (n : Nat) : Decidable (PUp ps n) := Classical.propDecidable _
/-- They are parts. -/
noncomputable def partsB (ps : List Par) : Bool := decide (ps.length ≤ 20 ∧ PUp ps ps.length)
theorem parts_true {ps : List Par} (h : partsB ps = true) : ps.length ≤ 20 ∧ PUp ps ps.length := by simpa [partsB] using h
theorem parts_yes {ps : List Par} (h : ps.length ≤ 20) (h1 : PUp ps ps.length) : partsB ps = true := by simp [partsB, h, h1]
theorem parts_long {ps : List Par} (h : ¬ ps.length ≤ 20) : partsB ps = false := by simp [partsB]; omega
theorem parts_not {ps : List Par} {k : Nat} (hk : k < ps.length) (h : partB ps[k] = false) : partsB ps = false := by
  simp only [partsB, decide_eq_false_iff_not]; rintro ⟨_, h1, _⟩; rw [h1 k hk hk] at h; cases h
theorem parts_fall {ps : List Par} {k : Nat} (hk : k + 1 < ps.length) (h : lessB ps[k] ps[k + 1].who ps[k + 1].mill = false) : partsB ps = false := by
  simp only [partsB, decide_eq_false_iff_not]; rintro ⟨_, _, h1⟩; rw [h1 k hk hk] at h; cases h
theorem PUp.zero (ps : List Par) : PUp ps 0 := ⟨fun _ _ h => by omega, fun _ _ h => by omega⟩
theorem PUp.one {ps : List Par} (hk : 0 < ps.length) (h : partB ps[0] = true) : PUp ps 1 :=
  ⟨fun j hj hlt => by obtain rfl : j = 0 := by omega
                      exact h, fun _ _ h => by omega⟩
theorem PUp.succ {ps : List Par} {k : Nat} (h : PUp ps (k + 1)) (hk : k + 1 < ps.length) (h1 : partB ps[k + 1] = true) (h2 : lessB ps[k] ps[k + 1].who ps[k + 1].mill = true) : PUp ps (k + 2) :=
  ⟨fun j hj hlt => by
    by_cases e : j = k + 1
    · subst e; exact h1
    · exact h.1 j hj (by omega), fun j hj hlt => by
    by_cases e : j = k
    · subst e; exact h2
    · exact h.2 j hj (by omega)⟩

/-- Names of at most so many bytes. -/
def PSized (ps : List Par) : Prop := ∀ k (h : k < ps.length), ps[k].who.size ≤ maxLen ∧ ps[k].mill.size ≤ maxLen

set_option maxHeartbeats 4000000 in
set_option maxRecDepth 100000 in
theorem sPartsOk_any {w : World} {a : Option Addr} {ps : List Par} (cap : Nat) (h : Recs Par.cs w a ps) (hl : ps.length ≤ 9223372036854775807) (hs : PSized ps) :
    Calls Tryz.prog 54 #[.slice a ps.length cap] w fun e w' => e = .returned (.bool (partsB ps)) ∧ Below w.heap.size w w' := by
  have H := Lib.hid h
  have HS := Lib.hid hs
  clear h hs
  go_enter Tryz.func54, Tryz.ntmps54
  go_wp2
  go_loopw [3] (fun i w' => ∃ (k : Nat), k ≤ ps.length ∧ i = .int .i64 k ∧ Below w.heap.size w w' ∧ PUp ps k) (fun i _ => ps.length - (intOf i).toNat)
  case atStart => exact ⟨0, Nat.zero_le _, rfl, Below.refl _ _, PUp.zero _⟩
  case round =>
    obtain ⟨k, hk, rfl, hb, hu⟩ := hrel
    have HB := Lib.hid hb
    have HU := Lib.hid hu
    clear hu hb
    by_cases hlt : k < ps.length
    · obtain ⟨b, off, rfl, hlb, c0, c1, c2⟩ := Par.at (H.out.below HB.out) k hlt
      have hz1 := Lib.hid (HS.out k hlt).1
      have hz2 := Lib.hid (HS.out k hlt).2
      have e0 := Grow.cell c0
      have e1 := Grow.cell c1
      have e2 := Grow.cell c2
      have HPB : Hid (partB ps[k] = (nameB ps[k].who && (nameB ps[k].mill && inB 1 1000000000 ps[k].shares))) := rfl
      cases hw1 : nameB ps[k].who
      · have HN := Lib.hid (parts_not hlt (by rw [HPB.out, hw1]; rfl))
        go_wp2
        refine wp_region_grow (by kernel_rfl) (by kernel_rfl) ?_
        repeat (go_big_quiet_step (first | (go_at_call 80; first | with_reducible exact grow_same (bool_is hw1) (sNameOk_any ps[k].who _ hz1.out))))
        refine wpQuiet_nil ?_
        intro _ hw'
        obtain ⟨gq, rfl⟩ := hw'
        have HB2 := Lib.hid (below_trans HB.out gq.ok)
        go_wp2
        go_ret
        exact ⟨by rw [HN.out]; rfl, HB2.out⟩
      cases hw2 : nameB ps[k].mill
      · have HN := Lib.hid (parts_not hlt (by rw [HPB.out, hw1, hw2]; rfl))
        go_wp2
        refine wp_region_grow (by kernel_rfl) (by kernel_rfl) ?_
        repeat (go_big_quiet_step (first | (go_at_call 80; first | with_reducible exact grow_same (bool_is hw1) (sNameOk_any ps[k].who _ hz1.out) | with_reducible exact grow_same (bool_is hw2) (sNameOk_any ps[k].mill _ hz2.out))))
        refine wpQuiet_nil ?_
        intro _ hw'
        obtain ⟨gq, rfl⟩ := hw'
        have HB2 := Lib.hid (below_trans HB.out gq.ok)
        go_wp2
        go_ret
        exact ⟨by rw [HN.out]; rfl, HB2.out⟩
      cases hw3 : inB 1 1000000000 ps[k].shares
      · have HN := Lib.hid (parts_not hlt (by rw [HPB.out, hw1, hw2, hw3]; rfl))
        go_wp2
        refine wp_region_grow (by kernel_rfl) (by kernel_rfl) ?_
        repeat (go_big_quiet_step (first | (go_at_call 80; first | with_reducible exact grow_same (bool_is hw1) (sNameOk_any ps[k].who _ hz1.out) | with_reducible exact grow_same (bool_is hw2) (sNameOk_any ps[k].mill _ hz2.out)) | (go_at_call 56; exact grow_same (bool_is hw3) (l1In_any _ _ _ _))))
        refine wpQuiet_nil ?_
        intro _ hw'
        obtain ⟨gq, rfl⟩ := hw'
        have HB2 := Lib.hid (below_trans HB.out gq.ok)
        go_wp2
        go_ret
        exact ⟨by rw [HN.out]; rfl, HB2.out⟩
      have HPT := Lib.hid (show partB ps[k] = true by rw [HPB.out, hw1, hw2, hw3]; rfl)
      cases k with
      | zero =>
        have HN := Lib.hid (PUp.one hlt HPT.out)
        simp only [Nat.zero_mul, Nat.add_zero] at e0 e1 e2
        go_wp2
        refine wp_region_grow (by kernel_rfl) (by kernel_rfl) ?_
        repeat (go_big_quiet_step (first | (go_at_call 80; first | with_reducible exact grow_same (bool_is hw1) (sNameOk_any ps[0].who _ hz1.out) | with_reducible exact grow_same (bool_is hw2) (sNameOk_any ps[0].mill _ hz2.out)) | (go_at_call 56; exact grow_same (bool_is hw3) (l1In_any _ _ _ _))))
        refine wpQuiet_nil ?_
        intro _ hw'
        obtain ⟨gq, rfl⟩ := hw'
        have HB2 := Lib.hid (below_trans HB.out gq.ok)
        go_wp2
        go_roundw
        case rel => exact ⟨1, by omega, by go_num, HB2.out, HN.out⟩
        case measure => simp [intOf]; omega
      | succ m =>
        obtain ⟨b', off', e', _, d0, d1, d2⟩ := Par.at (H.out.below HB.out) m (by omega)
        obtain ⟨rfl, rfl⟩ : b' = b ∧ off' = off := by injection e' with e'; injection e' with e1 e2; exact ⟨e1.symm, e2.symm⟩
        clear e'
        have f0 := Grow.cell d0
        have f1 := Grow.cell d1
        have f2 := Grow.cell d2
        cases hq : lessB ps[m] ps[m + 1].who ps[m + 1].mill
        · have HN := Lib.hid (parts_fall hlt hq)
          go_wp2
          refine wp_region_grow (by kernel_rfl) (by kernel_rfl) ?_
          repeat (go_big_quiet_step (first | (go_at_call 80; first | with_reducible exact grow_same (bool_is hw1) (sNameOk_any ps[m + 1].who _ hz1.out) | with_reducible exact grow_same (bool_is hw2) (sNameOk_any ps[m + 1].mill _ hz2.out)) | (go_at_call 56; exact grow_same (bool_is hw3) (l1In_any _ _ _ _)) | (go_at_call 82; exact grow_call (bool_is hq) (l5Less_any ps[m] ps[m + 1].who ps[m + 1].mill _))))
          refine wpQuiet_nil ?_
          intro _ hw'
          obtain ⟨gq, rfl⟩ := hw'
          have HB2 := Lib.hid (below_trans HB.out gq.ok)
          go_wp2
          go_ret
          exact ⟨by rw [HN.out]; rfl, HB2.out⟩
        · have HN := Lib.hid (HU.out.succ hlt HPT.out hq)
          go_wp2
          refine wp_region_grow (by kernel_rfl) (by kernel_rfl) ?_
          repeat (go_big_quiet_step (first | (go_at_call 80; first | with_reducible exact grow_same (bool_is hw1) (sNameOk_any ps[m + 1].who _ hz1.out) | with_reducible exact grow_same (bool_is hw2) (sNameOk_any ps[m + 1].mill _ hz2.out)) | (go_at_call 56; exact grow_same (bool_is hw3) (l1In_any _ _ _ _)) | (go_at_call 82; exact grow_call (bool_is hq) (l5Less_any ps[m] ps[m + 1].who ps[m + 1].mill _))))
          refine wpQuiet_nil ?_
          intro _ hw'
          obtain ⟨gq, rfl⟩ := hw'
          have HB2 := Lib.hid (below_trans HB.out gq.ok)
          go_wp2
          go_roundw
          case rel => exact ⟨m + 2, by omega, by go_num, HB2.out, HN.out⟩
          case measure => simp [intOf]; omega
    · obtain rfl : k = ps.length := by omega
      by_cases h20 : ps.length ≤ 20
      · have HN := Lib.hid (parts_yes h20 HU.out)
        go_wp2
        go_ret
        exact ⟨by rw [HN.out]; simp; omega, HB.out⟩
      · have HN := Lib.hid (parts_long h20)
        go_wp2
        go_ret
        exact ⟨by rw [HN.out]; simp; omega, HB.out⟩
end Go.Proofs.YtncandoohlndnaaGreat
namespace Go.Proofs.YtncandoohlndnaaGreat
open Go.ChangeShapes Go.WideShapes Go.ChangeAt Go.RowKit

def par0 : Par := ⟨ByteArray.empty, ByteArray.empty, 0⟩
def patn (ps : List Par) (j : Nat) : Par := ps.getD j par0
theorem patn_eq {ps : List Par} {j : Nat} (h : j < ps.length) : patn ps j = ps[j] := by simp [patn, h]
/-- Is it of that one in that mill? -/
def isB (p : Par) (who mill : ByteArray) : Bool := (p.who.toList == who.toList) && (p.mill.toList == mill.toList)
/-- Where it is first. -/
def pfindV (ps : List Par) (who mill : ByteArray) : Int := findUp (fun j => isB (patn ps j) who mill) ps.length
theorem pfind_hit {ps : List Par} {who mill : ByteArray} (h : 0 ≤ pfindV ps who mill) : ∃ k : Nat, pfindV ps who mill = (k : Int) ∧ ∃ hk : k < ps.length, isB ps[k] who mill = true := by
  obtain ⟨k, e, hk, hq, _⟩ := findUp_hit h
  exact ⟨k, e, hk, by simpa [patn_eq hk] using hq⟩
theorem pfind_lo (ps : List Par) (who mill : ByteArray) : -1 ≤ pfindV ps who mill := (findUp_lo _ _).1

/-- So many shares that one has there. -/
noncomputable def sharesOfV (ps : List Par) (who mill : ByteArray) : Int := if partsB ps = true then (if 0 ≤ pfindV ps who mill then (patn ps (pfindV ps who mill).toNat).shares else 0) else -1

/-- All shares of that mill among the first k. -/
def sumS (ps : List Par) (mill : ByteArray) : Nat → Int
  | 0 => 0
  | k + 1 => sumS ps mill k + if ((patn ps k).mill.toList == mill.toList) = true then (patn ps k).shares else 0
noncomputable def sharesInV (ps : List Par) (mill : ByteArray) : Int := if partsB ps = true then sumS ps mill ps.length else -1
theorem part_bd1 {p : Par} (h : partB p = true) : 1 ≤ p.shares ∧ p.shares ≤ 1000000000 := by
  simp only [partB, Bool.and_eq_true] at h
  have := h.2.2
  simp [inB] at this; omega
theorem sumS_bd {ps : List Par} {mill : ByteArray} (h : PUp ps ps.length) : ∀ k, k ≤ ps.length → 0 ≤ sumS ps mill k ∧ sumS ps mill k ≤ 1000000000 * k
  | 0, _ => by simp [sumS]
  | k + 1, hk => by
    have h1 := sumS_bd (mill := mill) h k (by omega)
    have h2 := part_bd1 (h.1 k (by omega) (by omega))
    simp only [sumS, patn_eq (show k < ps.length by omega)]
    split <;> omega

set_option maxHeartbeats 1000000 in
set_option maxRecDepth 100000 in
theorem sSharesIn_any {w : World} {a : Option Addr} {ps : List Par} (cap : Nat) (mill : ByteArray) (h : Recs Par.cs w a ps) (hl : ps.length ≤ 9223372036854775807) (hs : PSized ps) :
    Calls Tryz.prog 59 #[.slice a ps.length cap, .string mill] w fun e w' => e = .returned (.int .i64 (sharesInV ps mill)) ∧ Below w.heap.size w w' := by
  have H := Lib.hid h
  have HS := Lib.hid hs
  clear h hs
  go_enter Tryz.func59, Tryz.ntmps59
  go_wp2_with fail
  refine (sPartsOk_any _ H.out hl HS.out).mono ?_
  rintro e w1 ⟨rfl, hb1⟩
  have HB1 := Lib.hid hb1
  have HR := Lib.hid (H.out.below hb1)
  clear hb1 H
  cases hf : partsB ps
  · have HN := Lib.hid (show sharesInV ps mill = -1 by simp [sharesInV, hf])
    go_wp2
    go_ret
    exact ⟨by rw [HN.out]; rfl, HB1.out⟩
  · have HN := Lib.hid (show sharesInV ps mill = sumS ps mill ps.length by simp [sharesInV, hf])
    obtain ⟨h20, hu⟩ := parts_true hf
    have HU := Lib.hid hu
    clear hu hf
    go_wp2
    go_loop [5, 6] (fun t i => ∃ k : Nat, k ≤ ps.length ∧ i = .int .i64 k ∧ t = .int .i64 (sumS ps mill k)) (fun _ i => ps.length - (intOf i).toNat)
    case atStart => exact ⟨0, Nat.zero_le _, rfl, rfl⟩
    case round =>
      obtain ⟨k, hk, rfl, rfl⟩ := hrel
      have hb := sumS_bd (mill := mill) HU.out k hk
      by_cases hlt : k < ps.length
      · obtain ⟨b, off, rfl, _, c0, c1, c2⟩ := Par.at HR.out k hlt
        have hb3 := part_bd1 (HU.out.1 k hlt hlt)
        cases hq : (ps[k].mill.toList == mill.toList)
        · have HM := Lib.hid (show sumS ps mill (k + 1) = sumS ps mill k by simp only [sumS, patn_eq hlt]; rw [hq]; simp)
          go_wp2
          go_round
          case rel => exact ⟨k + 1, by omega, by go_num, by rw [HM.out]⟩
          case measure => simp [intOf]; omega
        · have HM := Lib.hid (show sumS ps mill (k + 1) = sumS ps mill k + ps[k].shares by simp only [sumS, patn_eq hlt]; rw [hq]; simp)
          go_wp2
          go_round
          case rel => exact ⟨k + 1, by omega, by go_num, by rw [HM.out]⟩
          case measure => simp [intOf]; omega
      · obtain rfl : k = ps.length := by omega
        go_wp2
        go_ret
        exact ⟨by rw [HN.out]; rfl, HB1.out⟩

/-- A copy of the call's own. -/
def CopyP (ps : List Par) (w : World) (e : Ending) (w' : World) : Prop :=
  ∃ b cap, e = .returned (.slice (some ⟨b, 0, none⟩) ps.length cap) ∧ OwnR Par.cs 3 w' w.heap.size (some ⟨b, 0, none⟩) ps ∧ w'.ownsRow w.heap.size 83 3 (.slice (some ⟨b, 0, none⟩) ps.length cap) ps.length (ps.flatMap Par.cs) ∧ Below w.heap.size w w'

end Go.Proofs.YtncandoohlndnaaGreat
