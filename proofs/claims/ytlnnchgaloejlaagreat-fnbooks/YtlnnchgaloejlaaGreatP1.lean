/-
  Texts joined: Mem, Many, Recs, Mark, Grow, RecMill, RecPart, RecWait, L1In, Name, StrAt, Rise.
-/
import Derived.Test.YtlnnchgaloejlaaGreatRows
import Derived.WalkKit
import Derived.ProofKit
import Derived.OpenShut
import Derived.Outline
import Derived.WalkLawsBesides
import Derived.Below
import Derived.LoopN
import Derived.Lib.Hide
import Derived.Deep.QuietTactic
import Derived.BigQuiet
import Derived.Deep.OwnRows
import Derived.Laws.Cover1
import Derived.Laws.CopyRow
import Derived.Laws.CopyOwn
import Derived.OwnWalk
import Derived.Deep.AppendLies
import Derived.Laws.IdiomStrings
import Derived.Deep.Quiet
import Derived.StillTailTactics
import Derived.Deep.RegionHeld3
import Derived.WalkMore
import Derived.ScopeJumps
namespace Go.Proofs.YtlnnchgaloejlaaGreat
open Go.ChangeShapes Go.WideShapes Go.ChangeAt Go.RowKit

theorem at_lt {w : World} {b o : Nat} {v : Value} (h : w.cell? ⟨b, o, none⟩ = some v) : b < w.heap.size := by
  by_cases hb : b < w.heap.size
  · exact hb
  · exfalso
    have : w.heap[b]? = none := by simp; omega
    simp [World.cell?, this] at h

/-- These values lie one behind the other from a on. -/
def Lies (w : World) (a : Option Addr) (xs : List Value) : Prop :=
  ∀ k v, xs[k]? = some v → ∃ b off, a = some ⟨b, off, none⟩ ∧ w.cell? ⟨b, off + k, none⟩ = some v

theorem Lies.nil (w : World) (a : Option Addr) : Lies w a [] := fun _ _ h => by simp at h
theorem Lies.below {w w' : World} {a : Option Addr} {xs : List Value} (h : Lies w a xs) (hb : Below w.heap.size w w') : Lies w' a xs := by
  intro k v hk
  obtain ⟨b, off, rfl, hc⟩ := h k v hk
  exact ⟨b, off, rfl, by rw [hb.cell (at_lt hc)]; exact hc⟩
theorem Lies.under {w w' : World} {B : Nat} {a : Option Addr} {xs : List Value} (h : Lies w a xs) (hb : Below B w w') (hB : ∀ b off, a = some ⟨b, off, none⟩ → 0 < xs.length → b < B) : Lies w' a xs := by
  intro k v hk
  obtain ⟨b, off, rfl, hc⟩ := h k v hk
  have hl : 0 < xs.length := by
    cases xs with
    | nil => simp at hk
    | cons x r => simp
  exact ⟨b, off, rfl, by rw [hb.cell (hB b off rfl hl)]; exact hc⟩
theorem Lies.old {w : World} {a : Option Addr} {xs : List Value} (h : Lies w a xs) : ∀ b off, a = some ⟨b, off, none⟩ → 0 < xs.length → b < w.heap.size := by
  intro b off e hl
  obtain ⟨b', off', e', hc⟩ := h 0 xs[0] (List.getElem?_eq_getElem hl)
  rw [e] at e'
  injection e' with e'
  injection e' with e1
  subst e1
  exact at_lt hc
theorem Lies.draws {w : World} {a : Option Addr} {xs : List Value} (h : Lies w a xs) (n : Nat) : Lies (w.drewN n) a xs := h

theorem below_draws {B : Nat} {a w : World} (h : Below B a w) (n : Nat) : Below B a (w.drewN n) := ⟨h.os, h.tape, h.output, h.size, h.block⟩
theorem below_trans {w w1 w2 : World} (h : Below w.heap.size w w1) (k : Below w1.heap.size w1 w2) : Below w.heap.size w w2 := h.trans (k.mono h.size)

/-- All that was there reads as before: two rules for the walk. -/
theorem kept_all {W w1 : World} (hb : Below W.heap.size W w1) : (∀ b o, b < W.heap.size → w1.cell? ⟨b, o, none⟩ = W.cell? ⟨b, o, none⟩) ∧ ∀ b o, b < W.heap.size → w1.frozen? ⟨b, o, none⟩ = W.frozen? ⟨b, o, none⟩ :=
  ⟨fun b o h => hb.cell (p := ⟨b, o, none⟩) h, fun b o h => hb.frozen (p := ⟨b, o, none⟩) h⟩

/-- Block B, the first one that is not w's: n cells of the call's own, of which the first k hold xs's. -/
structure Room (w : World) (n : Nat) (xs : List Value) (k : Nat) (w' : World) : Prop where
  low : Below w.heap.size w w'
  has : w.heap.size < w'.heap.size
  all : ∀ j, j < n → ∃ v, w'.cell? ⟨w.heap.size, j, none⟩ = some v
  free : ∀ o, w'.frozen? ⟨w.heap.size, o, none⟩ = false
  full : ∀ j v, j < k → xs[j]? = some v → w'.cell? ⟨w.heap.size, j, none⟩ = some v

theorem Room.new (w : World) (z : Value) (n : Nat) (t : TypeId) (xs : List Value) : Room w n xs 0 (w.alloc (.cells (madeCells #[z] n) t)) where
  low := (Below.refl _ _).alloc (Nat.le_refl _) _
  has := by simp
  all := fun j hj => ⟨z, by
    obtain ⟨c, hc, hs, hf⟩ := World.rowIs_made w z n t
    simp only [World.cell?, hc]
    simpa using hf j hj⟩
  free := fun o => by go_simp
  full := fun j v hj _ => by omega

theorem Room.set {w w' : World} {n k : Nat} {xs : List Value} {v : Value} (h : Room w n xs k w') (hk : k < n) (hv : xs[k]? = some v) : Room w n xs (k + 1) (w'.setCell ⟨w.heap.size, k, none⟩ v) where
  low := h.low.setCell (Nat.le_refl _) _
  has := by have := h.has; simpa [World.setCell] using this
  all := fun j hj => by
    by_cases e : j = k
    · subst e
      obtain ⟨u, hu⟩ := h.all j hj
      exact ⟨v, by rw [World.cell?_setCell_same _ _ _ hu]⟩
    · obtain ⟨u, hu⟩ := h.all j hj
      exact ⟨u, by rw [World.cell?_setCell_other _ _ _ _ (by intro q; injection q with _ q; exact e (by omega))]; exact hu⟩
  free := fun o => by have := h.free o; go_simp
  full := fun j u hj hu => by
    by_cases e : j = k
    · subst e
      obtain ⟨x, hx⟩ := h.all j hk
      rw [hv] at hu
      injection hu with hu
      subst hu
      rw [World.cell?_setCell_same _ _ _ hx]
    · rw [World.cell?_setCell_other _ _ _ _ (by intro q; injection q with _ q; exact e (by omega))]
      exact h.full j u (by omega) hu

theorem Room.draws {w w' : World} {n k : Nat} {xs : List Value} (h : Room w n xs k w') (m : Nat) : Room w n xs k (w'.drewN m) :=
  ⟨below_draws h.low m, h.has, h.all, h.free, h.full⟩

theorem Room.lies {w w' : World} {n : Nat} {xs : List Value} (h : Room w n xs n w') (hn : xs.length ≤ n) : Lies w' (some ⟨w.heap.size, 0, none⟩) xs := by
  intro k v hk
  have hlt : k < xs.length := (List.getElem?_eq_some_iff.1 hk).1
  exact ⟨_, _, rfl, by rw [Nat.zero_add]; exact h.full k v (by omega) hk⟩
end Go.Proofs.YtlnnchgaloejlaaGreat
namespace Go.Proofs.YtlnnchgaloejlaaGreat
open Go.ChangeShapes Go.WideShapes Go.ChangeAt Go.RowKit

/-- 'make([]T, n)', an element being of any number of cells. -/
theorem run_make_many {P : Program} (t e : TypeId) (z : Value) (size bytes : Nat) (ht : P.underlying t = some (.slice e)) (hinfo : (P.info? e).map (fun i => (i.zero, i.size, i.bytes)) = some (some z, size, bytes))
    (kl kc : IntKind) (n : Nat) (hbytes : bytes * n ≤ 281474976710656) (h63 : n ≤ 9223372036854775807) (w : World) :
    (Instr.makeSlice t (.int kl (n : Int)) (.int kc (n : Int))).run P w = .ok (.slice (some ⟨w.heap.size, 0, none⟩) n n) (w.alloc (.cells (madeCells z.cells (n * size)) e)) := by
  obtain ⟨i, hi, hzz⟩ := Option.map_eq_some_iff.1 hinfo
  simp only [Prod.mk.injEq] at hzz
  obtain ⟨hz, hs, hb⟩ := hzz
  have h' : (i.bytes : Int) * (n : Int) ≤ 281474976710656 := by
    have h : ((i.bytes * n : Nat) : Int) ≤ 281474976710656 := by rw [hb]; omega
    rwa [Int.natCast_mul] at h
  have hr := run_make (P := P) w t e i z ht hi hz kl kc n n (by omega) (Int.le_refl _) h' (by omega)
  simpa only [Int.toNat_natCast, hs] using hr

theorem Room.made (w : World) (z : Array Value) (n : Nat) (t : TypeId) (xs : List Value) : Room w n xs 0 (w.alloc (.cells (madeCells z n) t)) where
  low := (Below.refl _ _).alloc (Nat.le_refl _) _
  has := by simp
  all := fun j hj => by
    have hs : (madeCells z n).size = n := size_madeCells z n
    refine ⟨(madeCells z n)[j]'(by omega), ?_⟩
    simp only [World.cell?, heap_alloc_new]
    simp [hs, hj]
  free := fun o => by go_simp
  full := fun j v hj _ => by omega

theorem Room.below {w w' w2 : World} {n k : Nat} {xs : List Value} (h : Room w n xs k w') (hb : Below w'.heap.size w' w2) : Room w n xs k w2 where
  low := below_trans h.low hb
  has := Nat.lt_of_lt_of_le h.has hb.size
  all := fun j hj => by obtain ⟨v, hv⟩ := h.all j hj; exact ⟨v, by rw [hb.cell (p := ⟨w.heap.size, j, none⟩) h.has]; exact hv⟩
  free := fun o => by rw [hb.frozen (p := ⟨w.heap.size, o, none⟩) h.has]; exact h.free o
  full := fun j v hj hv => by rw [hb.cell (p := ⟨w.heap.size, j, none⟩) h.has]; exact h.full j v hj hv

theorem grown_keeps {w w' : World} {row : Option Nat} (h : w.grownBy w' row) {b o : Nat} (hb : b < w.heap.size) (hne : some b ≠ row) : w'.cell? ⟨b, o, none⟩ = w.cell? ⟨b, o, none⟩ :=
  World.cell?_of_block (h.block b hb hne)
theorem gid (w : World) (row : Option Nat) : w.grownBy w row := ⟨rfl, rfl, rfl, Nat.le_refl _, fun _ _ _ => rfl⟩
theorem gbelow {w w1 w2 : World} {row : Option Nat} (h : w.grownBy w1 row) (k : Below w1.heap.size w1 w2) : w.grownBy w2 row :=
  ⟨k.os.trans h.os, k.tape.trans h.tape, k.output.trans h.output, Nat.le_trans h.size k.size, fun i hi hne => (k.block i (Nat.lt_of_lt_of_le hi h.size)).trans (h.block i hi hne)⟩
theorem gset {w w1 : World} {b o : Nat} (h : w.grownBy w1 (some b)) (v : Value) : w.grownBy (w1.setCell ⟨b, o, none⟩ v) (some b) := by
  refine ⟨h.os, h.tape, h.output, Nat.le_trans h.size (by simp [World.setCell]), fun i hi hne => ?_⟩
  rw [Below.heap_setCell _ _ _ _ (by intro e; exact hne (by rw [e]))]
  exact h.block i hi hne
theorem bgrown {w w1 w2 : World} {B : Nat} {row : Option Nat} (h : Below B w w1) (hB : B ≤ w1.heap.size) (k : w1.grownBy w2 row) (hr : ∀ g, row = some g → B ≤ g) : Below B w w2 :=
  h.trans ⟨k.os, k.tape, k.output, k.size, fun i hi => k.block i (by omega) (by intro e; have := hr i e.symm; omega)⟩

/-- 'copy' of elements of any number of cells, over a whole row of the call's own. -/
theorem run_copy_many {P : Program} (w : World) (dT sT ty elem : TypeId) (size g dCap n : Nat) (sp : Option Addr) (sCap : Nat) (cur : Array Value) (t : TypeId) (cs : List Value)
    (hu : P.underlying dT = some (.slice elem)) (hs : (P.info? elem).map (·.size) = some size) (hsz : 0 < size) (hg : w.heap[g]? = some (.cells cur t (0, 0))) (hcur : cur.size = n * size) (hc : cs.length = n * size)
    (hsrc : Lies w sp cs) (h1 : ∀ v ∈ cs, v.oneCell' = true) :
    (Builtin.copy_ #[dT, sT] ty #[.slice (some ⟨g, 0, none⟩) n dCap, .slice sp n sCap]).run P w = .ok (goInt n) (w.setRow g cs.toArray) := by
  cases hq : P.info? elem with
  | none => simp [hq] at hs
  | some i =>
    have hi : i.size = size := by simpa [hq] using hs
    cases n with
    | zero =>
      have hcs : cs = [] := List.eq_nil_of_length_eq_zero (by omega)
      have hce : cur = #[] := Array.eq_empty_of_size_eq_zero (by omega)
      subst hcs; subst hce
      have hl : ∀ (x : Addr), (loadCells x 0).run P w = .ok #[] w := fun x => by simpa using run_loadCells_list (P := P) w x [] (by simp)
      have hself := setRow_self w g #[] t (0, 0) hg
      cases sp <;> simp [Builtin.copy_, run_underlying hu, Builtin.lenOf, Builtin.firstCells, sizeOf, typeInfo, hq, storeCells, hl, hself]
    | succ n =>
      have hpos : 0 < cs.length := by rw [hc]; exact Nat.mul_pos (by omega) hsz
      obtain ⟨b, off, rfl, _⟩ := hsrc 0 cs[0] (List.getElem?_eq_getElem hpos)
      have hsrc' : ∀ j v, cs[j]? = some v → w.cell? ((⟨b, off, none⟩ : Addr).add j) = some v := by
        intro j v hj
        obtain ⟨b', off', e, hv⟩ := hsrc j v hj
        injection e with e; injection e with e1 e2; subst e1; subst e2
        rw [add_plain]; exact hv
      have hl := run_loadCells_list (P := P) w ⟨b, off, none⟩ cs hsrc'
      have hst := run_storeCells_at P g 0 t cs 0 cur w hg (by simp; omega) h1
      have hd : cur.toList.drop (0 + 0 + cs.length) = [] := List.drop_eq_nil_of_le (by simp; omega)
      rw [hd] at hst
      simp only [Nat.add_zero, List.take_zero, List.nil_append, List.append_nil] at hst
      simp [Builtin.copy_, run_underlying hu, Builtin.lenOf, Builtin.firstCells, sizeOf, typeInfo, hq, hi, ← hc, hl, hst]

theorem setRow_new (w : World) (c cs : Array Value) (t : TypeId) : (w.alloc (.cells c t)).setRow w.heap.size cs = w.alloc (.cells cs t) := by
  unfold World.setRow World.alloc
  congr 1
  apply Array.ext
  · simp
  · intro k h1 h2
    simp only [Array.getElem_modify, Array.getElem_push]
    split
    · rename_i hk; subst hk; simp
    · split
      · rfl
      · rename_i h3 h4; simp at h1; omega

/-- 'copy' over a row that is new. -/
theorem run_copy_new {P : Program} (w : World) (dT sT ty elem : TypeId) (size dCap n : Nat) (sp : Option Addr) (sCap : Nat) (cur : Array Value) (t : TypeId) (cs : List Value)
    (hu : P.underlying dT = some (.slice elem)) (hs : (P.info? elem).map (·.size) = some size) (hsz : 0 < size) (hcur : cur.size = n * size) (hc : cs.length = n * size)
    (hsrc : Lies w sp cs) (h1 : ∀ v ∈ cs, v.oneCell' = true) :
    (Builtin.copy_ #[dT, sT] ty #[.slice (some ⟨w.heap.size, 0, none⟩) n dCap, .slice sp n sCap]).run P (w.alloc (.cells cur t)) = .ok (goInt n) (w.alloc (.cells cs.toArray t)) := by
  have hrun := run_copy_many (P := P) (w.alloc (.cells cur t)) dT sT ty elem size w.heap.size dCap n sp sCap cur t cs hu hs hsz (heap_alloc_new _ _) hcur hc (hsrc.below ((Below.refl _ _).alloc (Nat.le_refl _) _)) h1
  rw [setRow_new] at hrun
  exact hrun

/-- A row that is new. -/
theorem lies_new (w : World) (cs : List Value) (t : TypeId) : Lies (w.alloc (.cells cs.toArray t)) (some ⟨w.heap.size, 0, none⟩) cs := by
  intro k v hk
  exact ⟨_, _, rfl, by simp only [World.cell?, heap_alloc_new]; simpa using hk⟩
theorem below_new (w : World) (o : Obj) : Below w.heap.size w (w.alloc o) := (Below.refl _ _).alloc (Nat.le_refl _) _
theorem free_new (w : World) (c : Array Value) (t : TypeId) (o : Nat) : (w.alloc (.cells c t)).frozen? ⟨w.heap.size, o, none⟩ = false := by go_simp

/-- This place, of n cells, may be written: all are there, none is frozen. -/
structure Mine (w : World) (b off n : Nat) : Prop where
  all : ∀ j, j < n → ∃ v, w.cell? ⟨b, off + j, none⟩ = some v
  free : ∀ o, w.frozen? ⟨b, o, none⟩ = false
/-- The first k cells of that place hold xs's; all other blocks are as they were. -/
structure Wrote (w : World) (b off n : Nat) (xs : List Value) (k : Nat) (w' : World) : Prop where
  grown : w.grownBy w' (some b)
  mine : Mine w' b off n
  full : ∀ j v, j < k → xs[j]? = some v → w'.cell? ⟨b, off + j, none⟩ = some v
theorem Wrote.start {w : World} {b off n : Nat} (h : Mine w b off n) (xs : List Value) : Wrote w b off n xs 0 w := ⟨gid _ _, h, fun _ _ h => by omega⟩
theorem Mine.set {w : World} {b off n : Nat} (h : Mine w b off n) (o : Nat) (v : Value) : Mine (w.setCell ⟨b, o, none⟩ v) b off n where
  all := fun j hj => by
    obtain ⟨u, hu⟩ := h.all j hj
    by_cases e : off + j = o
    · subst e; exact ⟨v, by rw [World.cell?_setCell_same _ _ _ hu]⟩
    · exact ⟨u, by rw [World.cell?_setCell_other _ _ _ _ (by intro q; injection q with _ q; exact e (by omega))]; exact hu⟩
  free := fun o => by have := h.free o; go_simp
theorem Mine.below {w w' : World} {b off n : Nat} (h : Mine w b off n) (hb : b < w.heap.size) (k : Below w.heap.size w w') : Mine w' b off n where
  all := fun j hj => by obtain ⟨u, hu⟩ := h.all j hj; exact ⟨u, by rw [k.cell (p := ⟨b, off + j, none⟩) hb]; exact hu⟩
  free := fun o => by rw [k.frozen (p := ⟨b, o, none⟩) hb]; exact h.free o
theorem Mine.grown {w w' : World} {b off n : Nat} {row : Option Nat} (h : Mine w b off n) (hb : b < w.heap.size) (k : w.grownBy w' row) (hne : some b ≠ row) : Mine w' b off n where
  all := fun j hj => by obtain ⟨u, hu⟩ := h.all j hj; exact ⟨u, by rw [grown_keeps k hb hne]; exact hu⟩
  free := fun o => by rw [World.frozen?_of_block (k.block b hb hne)]; exact h.free o
theorem Wrote.set {w w' : World} {b off n k : Nat} {xs : List Value} {v : Value} (h : Wrote w b off n xs k w') (hk : k < n) (hv : xs[k]? = some v) : Wrote w b off n xs (k + 1) (w'.setCell ⟨b, off + k, none⟩ v) where
  grown := gset h.grown v
  mine := h.mine.set _ _
  full := fun j u hj hu => by
    by_cases e : j = k
    · subst e
      obtain ⟨x, hx⟩ := h.mine.all j hk
      rw [hv] at hu
      injection hu with hu
      subst hu
      rw [World.cell?_setCell_same _ _ _ hx]
    · rw [World.cell?_setCell_other _ _ _ _ (by intro q; injection q with _ q; exact e (by omega))]
      exact h.full j u (by omega) hu
theorem Wrote.put {w w' : World} {b off n k p q : Nat} {xs : List Value} {v : Value} (h : Wrote w b off n xs k w') (hk : k < n) (hv : xs[k]? = some v) (hp : p = off + k) (hq : q = k + 1) : Wrote w b off n xs q (w'.setCell ⟨b, p, none⟩ v) := by
  subst hp; subst hq; exact h.set hk hv
theorem Wrote.below {w w' w2 : World} {b off n k : Nat} {xs : List Value} (h : Wrote w b off n xs k w') (hb : b < w.heap.size) (q : Below w'.heap.size w' w2) : Wrote w b off n xs k w2 :=
  ⟨gbelow h.grown q, h.mine.below (Nat.lt_of_lt_of_le hb h.grown.size) q, fun j v hj hv => by rw [q.cell (p := ⟨b, off + j, none⟩) (Nat.lt_of_lt_of_le hb h.grown.size)]; exact h.full j v hj hv⟩
theorem Wrote.lies {w w' : World} {b off n : Nat} {xs : List Value} (h : Wrote w b off n xs n w') (hn : xs.length ≤ n) : Lies w' (some ⟨b, off, none⟩) xs := by
  intro k v hk
  have hlt : k < xs.length := (List.getElem?_eq_some_iff.1 hk).1
  exact ⟨_, _, rfl, h.full k v (by omega) hk⟩
end Go.Proofs.YtlnnchgaloejlaaGreat
namespace Go.Proofs.YtlnnchgaloejlaaGreat
open Go.ChangeShapes Go.WideShapes Go.ChangeAt Go.RowKit

section
variable {α : Type} {f : α → List Value} {c : Nat}

/-- These records lie one behind the other from a on. -/
def Recs (f : α → List Value) (w : World) (a : Option Addr) (xs : List α) : Prop := Lies w a (xs.flatMap f)

theorem flat_length (hc : ∀ x, (f x).length = c) : ∀ xs : List α, (xs.flatMap f).length = xs.length * c
  | [] => by simp
  | x :: r => by
    rw [List.flatMap_cons, List.length_append, hc x, flat_length hc r, List.length_cons, Nat.add_mul, Nat.one_mul, Nat.add_comm]
theorem flat_at (hc : ∀ x, (f x).length = c) : ∀ (xs : List α) (k j : Nat) (hk : k < xs.length), j < c → (xs.flatMap f)[k * c + j]? = (f xs[k])[j]?
  | x :: r, 0, j, _, hj => by
    rw [List.flatMap_cons, Nat.zero_mul, Nat.zero_add, List.getElem?_append_left (by rw [hc]; exact hj)]; rfl
  | x :: r, k + 1, j, hk, hj => by
    have := flat_at hc r k j (by simpa using hk) hj
    rw [List.flatMap_cons, Nat.add_mul, Nat.one_mul, List.getElem?_append_right (by rw [hc]; omega), hc, show k * c + c + j - c = k * c + j by omega, this]; rfl
theorem flat_cases (hc : ∀ x, (f x).length = c) {xs : List α} {i : Nat} {v : Value} (h : (xs.flatMap f)[i]? = some v) : ∃ k j, ∃ hk : k < xs.length, j < c ∧ i = k * c + j ∧ (f xs[k])[j]? = some v := by
  have hlt := (List.getElem?_eq_some_iff.1 h).1
  rw [flat_length hc] at hlt
  have hc0 : 0 < c := by
    rcases Nat.eq_zero_or_pos c with e | e
    · subst e; simp at hlt
    · exact e
  have hk : i / c < xs.length := Nat.div_lt_of_lt_mul (by rw [Nat.mul_comm]; exact hlt)
  have hj : i % c < c := Nat.mod_lt _ hc0
  have he : i = i / c * c + i % c := by rw [Nat.mul_comm]; exact (Nat.div_add_mod i c).symm
  refine ⟨i / c, i % c, hk, hj, he, ?_⟩
  rw [← flat_at hc xs _ _ hk hj, ← he]; exact h
theorem flat_take (hc : ∀ x, (f x).length = c) : ∀ (xs : List α) (n : Nat), (xs.take n).flatMap f = (xs.flatMap f).take (n * c)
  | [], n => by simp
  | x :: r, 0 => by simp
  | x :: r, n + 1 => by
    rw [List.take_succ_cons, List.flatMap_cons, List.flatMap_cons, flat_take hc r n, Nat.add_mul, Nat.one_mul, Nat.add_comm (n * c) c, ← hc x, List.take_length_add_append]
theorem flat_drop (hc : ∀ x, (f x).length = c) : ∀ (xs : List α) (n : Nat), (xs.drop n).flatMap f = (xs.flatMap f).drop (n * c)
  | [], n => by simp
  | x :: r, 0 => by simp
  | x :: r, n + 1 => by
    rw [List.drop_succ_cons, List.flatMap_cons, flat_drop hc r n, Nat.add_mul, Nat.one_mul, Nat.add_comm (n * c) c, ← List.drop_drop, List.drop_left' (hc x)]
theorem flat_one (h1 : ∀ x, ∀ v ∈ f x, v.oneCell' = true) (xs : List α) : ∀ v ∈ xs.flatMap f, v.oneCell' = true := by
  intro v hv
  obtain ⟨x, _, hx⟩ := List.mem_flatMap.1 hv
  exact h1 x v hx

theorem Recs.nil (w : World) (a : Option Addr) : Recs f w a [] := Lies.nil _ _
theorem Recs.below {w w' : World} {a : Option Addr} {xs : List α} (h : Recs f w a xs) (hb : Below w.heap.size w w') : Recs f w' a xs := Lies.below h hb
theorem Recs.takeR (hc : ∀ x, (f x).length = c) {w : World} {a : Option Addr} {xs : List α} (h : Recs f w a xs) (n : Nat) : Recs f w a (xs.take n) := by
  intro k v hk
  rw [flat_take hc, List.getElem?_take] at hk
  split at hk
  · exact h k v hk
  · cases hk
theorem Recs.draws {w : World} {a : Option Addr} {xs : List α} (h : Recs f w a xs) (n : Nat) : Recs f (w.drewN n) a xs := h
theorem Recs.cell {w : World} {a : Option Addr} {xs : List α} (h : Recs f w a xs) (hc : ∀ x, (f x).length = c) (h0 : 0 < c) (k : Nat) (hk : k < xs.length) :
    ∃ b off, a = some ⟨b, off, none⟩ ∧ b < w.heap.size ∧ ∀ j v, (f xs[k])[j]? = some v → w.cell? ⟨b, off + k * c + j, none⟩ = some v := by
  have hl : 0 < (f xs[k]).length := by rw [hc]; exact h0
  obtain ⟨b, off, e, hc0⟩ := h (k * c + 0) ((f xs[k])[0]) (by rw [flat_at hc xs k 0 hk h0]; exact List.getElem?_eq_getElem hl)
  refine ⟨b, off, e, at_lt hc0, fun j v hj => ?_⟩
  have hjc : j < c := by have := (List.getElem?_eq_some_iff.1 hj).1; rwa [hc] at this
  obtain ⟨b', off', e', hv⟩ := h (k * c + j) v (by rw [flat_at hc xs k j hk hjc]; exact hj)
  rw [e] at e'; injection e' with e'; injection e' with e1 e2; subst e1; subst e2
  rw [Nat.add_assoc]; exact hv
theorem Recs.under {w w' : World} {B : Nat} {a : Option Addr} {xs : List α} (hc : ∀ x, (f x).length = c) (h : Recs f w a xs) (hb : Below B w w') (hB : ∀ b off, a = some ⟨b, off, none⟩ → 0 < xs.length → b < B) : Recs f w' a xs :=
  Lies.under h hb (fun b off e hl => hB b off e (by
    rw [flat_length hc] at hl
    rcases Nat.eq_zero_or_pos xs.length with e0 | e0
    · rw [e0, Nat.zero_mul] at hl; omega
    · exact e0))
theorem Recs.old {w : World} {a : Option Addr} {xs : List α} (hc : ∀ x, (f x).length = c) (h0 : 0 < c) (h : Recs f w a xs) : ∀ b off, a = some ⟨b, off, none⟩ → 0 < xs.length → b < w.heap.size :=
  fun b off e hl => Lies.old h b off e (by rw [flat_length hc]; exact Nat.mul_pos hl h0)
theorem Recs.mk {w : World} {b off : Nat} {xs : List α} (hc : ∀ x, (f x).length = c) (h : ∀ k (hk : k < xs.length) j v, (f xs[k])[j]? = some v → w.cell? ⟨b, off + (k * c + j), none⟩ = some v) : Recs f w (some ⟨b, off, none⟩) xs := by
  intro i v hi
  obtain ⟨k, j, hk, hj, rfl, hv⟩ := flat_cases hc hi
  exact ⟨b, off, rfl, h k hk j v hv⟩

/-- A list that lies in a block of its own, from block B on, and may be written. -/
def OwnR (f : α → List Value) (c : Nat) (w : World) (B : Nat) (a : Option Addr) (xs : List α) : Prop :=
  Recs f w a xs ∧ (xs = [] ∨ ∃ b, a = some ⟨b, 0, none⟩ ∧ B ≤ b ∧ b < w.heap.size ∧ Mine w b 0 (xs.length * c))
theorem OwnR.below {w w' : World} {B : Nat} {a : Option Addr} {xs : List α} (h : OwnR f c w B a xs) (hb : Below w.heap.size w w') : OwnR f c w' B a xs := by
  refine ⟨h.1.below hb, ?_⟩
  rcases h.2 with h0 | ⟨b, e, h1, h2, hm⟩
  · exact .inl h0
  · exact .inr ⟨b, e, h1, Nat.lt_of_lt_of_le h2 hb.size, hm.below h2 hb⟩
theorem OwnR.grown {w w' : World} {B x : Nat} {a : Option Addr} {xs : List α} (h : OwnR f c w B a xs) (hg : w.grownBy w' (some x)) (hx : x < B) : OwnR f c w' B a xs := by
  rcases h.2 with rfl | ⟨b, rfl, h1, h2, hm⟩
  · exact ⟨Lies.nil _ _, .inl rfl⟩
  · have hne : some b ≠ some x := by intro e; injection e with e; omega
    refine ⟨?_, .inr ⟨b, rfl, h1, Nat.lt_of_lt_of_le h2 hg.size, hm.grown h2 hg hne⟩⟩
    intro k v hk
    obtain ⟨b', off, e, hc⟩ := h.1 k v hk
    injection e with e; injection e with e1 e2; subst e1; subst e2
    exact ⟨b, 0, rfl, by rw [grown_keeps hg h2 hne]; exact hc⟩
theorem OwnR.mono {w : World} {B B' : Nat} {a : Option Addr} {xs : List α} (h : OwnR f c w B a xs) (hB : B' ≤ B) : OwnR f c w B' a xs := by
  refine ⟨h.1, ?_⟩
  rcases h.2 with h0 | ⟨b, e, h1, h2, hm⟩
  · exact .inl h0
  · exact .inr ⟨b, e, by omega, h2, hm⟩
theorem mine_lies {w : World} {b n : Nat} {vs : List Value} (h : Lies w (some ⟨b, 0, none⟩) vs) (hn : vs.length = n) (hf : ∀ o, w.frozen? ⟨b, o, none⟩ = false) : Mine w b 0 n where
  all := fun j hj => by
    obtain ⟨b', off', e, hc⟩ := h j vs[j] (List.getElem?_eq_getElem (by omega))
    injection e with e; injection e with e1 e2; subst e1; subst e2
    exact ⟨_, hc⟩
  free := hf
/-- One that owns its row. -/
theorem ownR_of {w : World} {base : Nat} {e : TypeId} {v : Value} {xs : List α} (hc : ∀ x, (f x).length = c) (h : w.ownsRow base e c v xs.length (xs.flatMap f)) :
    ∃ a cap, v = .slice a xs.length cap ∧ OwnR f c w base a xs ∧ (v = .slice none 0 0 ∨ ∃ b, a = some ⟨b, 0, none⟩) := by
  rcases h.2 with ⟨rfl, h0⟩ | ⟨g, cap, cur, rfl, hg, hh, hle, hm, hs, ht⟩
  · have : xs = [] := List.eq_nil_of_length_eq_zero h0
    subst this
    exact ⟨none, 0, rfl, ⟨Lies.nil _ _, .inl rfl⟩, .inl rfl⟩
  · have hlies : Lies w (some ⟨g, 0, none⟩) (xs.flatMap f) := by
      intro k v hk
      have hlt := (List.getElem?_eq_some_iff.1 hk).1
      refine ⟨g, 0, rfl, ?_⟩
      rw [← ht, List.getElem?_take_of_lt (by rw [flat_length hc] at hlt; exact hlt)] at hk
      simpa [World.cell?, hh] using hk
    exact ⟨_, cap, rfl, ⟨hlies, .inr ⟨g, rfl, hg, (Array.getElem?_eq_some_iff.1 hh).1, mine_lies hlies (flat_length hc xs) (fun o => by simp [World.frozen?, hh])⟩⟩, .inr ⟨g, rfl⟩⟩
end

theorem own_at0 (n : Nat) : ∀ g, (Value.slice (some ⟨n, 0, none⟩) 0 0).ownBlock = some g → n ≤ g := by
  intro g hg
  have : n = g := by simpa [Value.ownBlock] using hg
  omega
theorem own_lo {w : World} {base : Nat} {e : TypeId} {c : Nat} {v : Value} {n : Nat} {xs : List Value} (h : w.ownsRow base e c v n xs) : ∀ g, v.ownBlock = some g → base ≤ g := by
  intro g hg
  rcases h.2 with ⟨rfl, _⟩ | ⟨g', cap, cur, rfl, hb, _⟩
  · simp [Value.ownBlock] at hg
  · have : g' = g := by simpa [Value.ownBlock] using hg
    omega
theorem own_below {w w' : World} {base : Nat} {e : TypeId} {c : Nat} {v : Value} {n : Nat} {xs : List Value} (h : w.ownsRow base e c v n xs) (hb : Below w.heap.size w w') : w'.ownsRow base e c v n xs := by
  refine ⟨h.1, ?_⟩
  rcases h.2 with h0 | ⟨g, cap, cur, hv, hg, hh, hr⟩
  · exact .inl h0
  · exact .inr ⟨g, cap, cur, hv, hg, by rw [hb.block g (Array.getElem?_eq_some_iff.1 hh).1]; exact hh, hr⟩

/-- One record lies in block B, from its head on. -/
def RecAt {α : Type} (f : α → List Value) (w : World) (B : Nat) (x : α) : Prop := ∀ j v, (f x)[j]? = some v → w.cell? ⟨B, j, none⟩ = some v
theorem RecAt.below {α : Type} {f : α → List Value} {w w' : World} {B : Nat} {x : α} (h : RecAt f w B x) (hb : Below w.heap.size w w') : RecAt f w' B x :=
  fun j v hj => by have hc := h j v hj; rw [hb.cell (p := ⟨B, j, none⟩) (at_lt hc)]; exact hc
theorem RecAt.new {α : Type} (f : α → List Value) (w : World) (x : α) (T : TypeId) : RecAt f (w.alloc (.cells (f x).toArray T)) w.heap.size x :=
  fun j v hj => by simp only [World.cell?, heap_alloc_new]; simpa using hj

end Go.Proofs.YtlnnchgaloejlaaGreat
namespace Go.Proofs.YtlnnchgaloejlaaGreat
open Go.ChangeShapes Go.WideShapes Go.ChangeAt Go.RowKit

end Go.Proofs.YtlnnchgaloejlaaGreat
namespace Go.Proofs.YtlnnchgaloejlaaGreat
open Go.ChangeShapes Go.WideShapes Go.ChangeAt Go.RowKit

/-- A world in which all that was in w is as it was. -/
structure Grow (w : World) where
  to : World
  ok : Below w.heap.size w to
instance (w : World) : Nonempty (Grow w) := ⟨⟨w, Below.refl _ _⟩⟩
theorem Grow.cell {w : World} {b o : Nat} {v : Value} (h : w.cell? ⟨b, o, none⟩ = some v) : ∀ g : Grow w, g.to.cell? ⟨b, o, none⟩ = some v :=
  fun g => (g.ok.cell (p := ⟨b, o, none⟩) (at_lt h)).trans h
/-- The region's law. -/
theorem wp_region_grow {P : Program} {id : Nat} {Q : Exit → Act → World → Prop} {a : Act} {w : World} {l : List Oper} (hm : P.follows .mixedOrders = true) (hB : Region.lexB .any l.toArray = true)
    (h : wpQuiet P l.toArray (fun w' => ∃ g : Grow w, w' = g.to) (fun a' => ∀ w', (∃ g : Grow w, w' = g.to) → Q .normal a' w') l a) : (Code.region id l.toArray true).wp P Q a w :=
  wp_region_quiet (C := fun w' => ∃ g : Grow w, w' = g.to) hm hB ⟨⟨{ w with drawn := w.drawn + 1 }, below_draws (Below.refl _ _) 1⟩, rfl⟩ (by simpa using h)
/-- A callee that makes memory. -/
theorem grow_call {P : Program} {f : FuncId} {args : Array Value} {w : World} {g : Grow w} {v u : Value} (e : u = v) (h : Calls P f args g.to fun e w' => e = .returned u ∧ Below g.to.heap.size g.to w') :
    Calls P f args g.to fun e w'' => e = .returned v ∧ ∃ g' : Grow w, w'' = g'.to :=
  h.mono fun _ w' ⟨he, hb⟩ => ⟨by rw [he, e], ⟨w', below_trans g.ok hb⟩, rfl⟩
/-- A callee that leaves the world alone. -/
theorem grow_same {P : Program} {f : FuncId} {args : Array Value} {w : World} {g : Grow w} {v u : Value} (e : u = v) (h : Calls P f args g.to fun e w' => e = .returned u ∧ g.to = w') :
    Calls P f args g.to fun e w'' => e = .returned v ∧ ∃ g' : Grow w, w'' = g'.to :=
  h.mono fun _ w' ⟨he, hb⟩ => ⟨by rw [he, e], g, hb.symm⟩
theorem int_is {a b : Int} (h : a = b) : Value.int .i64 a = .int .i64 b := by rw [h]
theorem bool_is {a b : Bool} (h : a = b) : Value.bool a = .bool b := by rw [h]
end Go.Proofs.YtlnnchgaloejlaaGreat
namespace Go.Proofs.YtlnnchgaloejlaaGreat
open Go.ChangeShapes Go.WideShapes Go.ChangeAt Go.RowKit

/-- A Mill. -/
structure Mil where
  name : ByteArray
  stake : Int
  shares : Int
  cut : Int
  shut : Bool
def Mil.cs (x : Mil) : List Value := [.string x.name, .int .i64 x.stake, .int .i64 x.shares, .int .i64 x.cut, .bool x.shut]
theorem Mil.len (x : Mil) : x.cs.length = 5 := rfl
theorem Mil.one (x : Mil) : ∀ v ∈ x.cs, v.oneCell' = true := by
  intro v hv
  simp only [Mil.cs, List.mem_cons, List.not_mem_nil, or_false] at hv
  rcases hv with rfl | rfl | rfl | rfl | rfl <;> rfl
/-- The bytes of its strings. -/
def Mil.bytes (x : Mil) : Nat := x.name.size
/-- Its strings are no longer than a machine's. -/
def Mil.fits (x : Mil) : Prop := x.name.size ≤ 9223372036854775807
theorem Mil.at {w : World} {a : Option Addr} {xs : List Mil} (h : Recs Mil.cs w a xs) (k : Nat) (hk : k < xs.length) :
    ∃ b off, a = some ⟨b, off, none⟩ ∧ b < w.heap.size ∧ w.cell? ⟨b, off + k * 5, none⟩ = some (.string xs[k].name) ∧ w.cell? ⟨b, off + k * 5 + 1, none⟩ = some (.int .i64 xs[k].stake) ∧ w.cell? ⟨b, off + k * 5 + 2, none⟩ = some (.int .i64 xs[k].shares) ∧ w.cell? ⟨b, off + k * 5 + 3, none⟩ = some (.int .i64 xs[k].cut) ∧ w.cell? ⟨b, off + k * 5 + 4, none⟩ = some (.bool xs[k].shut) := by
  obtain ⟨b, off, e, hb, hc⟩ := h.cell Mil.len (by omega) k hk
  exact ⟨b, off, e, hb, hc 0 _ rfl, hc 1 _ rfl, hc 2 _ rfl, hc 3 _ rfl, hc 4 _ rfl⟩

theorem info_Mill : (Tryz.prog.info? 54).map (fun i => (i.zero, i.size, i.bytes)) = some (some (.agg #[.string ByteArray.empty, .int .i64 0, .int .i64 0, .int .i64 0, .bool false]), 5, 48) := by kernel_rfl

/-- What is left behind one: -1 where it is too much. -/
def Mil.left (x : Mil) (left : Int) : Int := if (x.bytes : Int) ≤ left then left - x.bytes else -1

end Go.Proofs.YtlnnchgaloejlaaGreat
namespace Go.Proofs.YtlnnchgaloejlaaGreat
open Go.ChangeShapes Go.WideShapes Go.ChangeAt Go.RowKit

/-- A Part. -/
structure Par where
  who : ByteArray
  mill : ByteArray
  shares : Int
def Par.cs (x : Par) : List Value := [.string x.who, .string x.mill, .int .i64 x.shares]
theorem Par.len (x : Par) : x.cs.length = 3 := rfl
theorem Par.one (x : Par) : ∀ v ∈ x.cs, v.oneCell' = true := by
  intro v hv
  simp only [Par.cs, List.mem_cons, List.not_mem_nil, or_false] at hv
  rcases hv with rfl | rfl | rfl <;> rfl
/-- The bytes of its strings. -/
def Par.bytes (x : Par) : Nat := x.who.size + x.mill.size
/-- Its strings are no longer than a machine's. -/
def Par.fits (x : Par) : Prop := x.who.size ≤ 9223372036854775807 ∧ x.mill.size ≤ 9223372036854775807
theorem Par.at {w : World} {a : Option Addr} {xs : List Par} (h : Recs Par.cs w a xs) (k : Nat) (hk : k < xs.length) :
    ∃ b off, a = some ⟨b, off, none⟩ ∧ b < w.heap.size ∧ w.cell? ⟨b, off + k * 3, none⟩ = some (.string xs[k].who) ∧ w.cell? ⟨b, off + k * 3 + 1, none⟩ = some (.string xs[k].mill) ∧ w.cell? ⟨b, off + k * 3 + 2, none⟩ = some (.int .i64 xs[k].shares) := by
  obtain ⟨b, off, e, hb, hc⟩ := h.cell Par.len (by omega) k hk
  exact ⟨b, off, e, hb, hc 0 _ rfl, hc 1 _ rfl, hc 2 _ rfl⟩

theorem info_Part : (Tryz.prog.info? 68).map (fun i => (i.zero, i.size, i.bytes)) = some (some (.agg #[.string ByteArray.empty, .string ByteArray.empty, .int .i64 0]), 3, 40) := by kernel_rfl

/-- What is left behind one: -1 where it is too much. -/
def Par.left (x : Par) (left : Int) : Int := if (x.bytes : Int) ≤ left then left - x.bytes else -1

end Go.Proofs.YtlnnchgaloejlaaGreat
namespace Go.Proofs.YtlnnchgaloejlaaGreat
open Go.ChangeShapes Go.WideShapes Go.ChangeAt Go.RowKit

/-- A Wait. -/
structure Wai where
  who : ByteArray
  mill : ByteArray
  amount : Int
  ripe : Int
def Wai.cs (x : Wai) : List Value := [.string x.who, .string x.mill, .int .i64 x.amount, .int .i64 x.ripe]
theorem Wai.len (x : Wai) : x.cs.length = 4 := rfl
theorem Wai.one (x : Wai) : ∀ v ∈ x.cs, v.oneCell' = true := by
  intro v hv
  simp only [Wai.cs, List.mem_cons, List.not_mem_nil, or_false] at hv
  rcases hv with rfl | rfl | rfl | rfl <;> rfl
/-- The bytes of its strings. -/
def Wai.bytes (x : Wai) : Nat := x.who.size + x.mill.size
/-- Its strings are no longer than a machine's. -/
def Wai.fits (x : Wai) : Prop := x.who.size ≤ 9223372036854775807 ∧ x.mill.size ≤ 9223372036854775807
theorem Wai.at {w : World} {a : Option Addr} {xs : List Wai} (h : Recs Wai.cs w a xs) (k : Nat) (hk : k < xs.length) :
    ∃ b off, a = some ⟨b, off, none⟩ ∧ b < w.heap.size ∧ w.cell? ⟨b, off + k * 4, none⟩ = some (.string xs[k].who) ∧ w.cell? ⟨b, off + k * 4 + 1, none⟩ = some (.string xs[k].mill) ∧ w.cell? ⟨b, off + k * 4 + 2, none⟩ = some (.int .i64 xs[k].amount) ∧ w.cell? ⟨b, off + k * 4 + 3, none⟩ = some (.int .i64 xs[k].ripe) := by
  obtain ⟨b, off, e, hb, hc⟩ := h.cell Wai.len (by omega) k hk
  exact ⟨b, off, e, hb, hc 0 _ rfl, hc 1 _ rfl, hc 2 _ rfl, hc 3 _ rfl⟩

theorem info_Wait : (Tryz.prog.info? 74).map (fun i => (i.zero, i.size, i.bytes)) = some (some (.agg #[.string ByteArray.empty, .string ByteArray.empty, .int .i64 0, .int .i64 0]), 4, 48) := by kernel_rfl

/-- What is left behind one: -1 where it is too much. -/
def Wai.left (x : Wai) (left : Int) : Int := if (x.bytes : Int) ≤ left then left - x.bytes else -1

end Go.Proofs.YtlnnchgaloejlaaGreat
namespace Go.Proofs.YtlnnchgaloejlaaGreat
open Go.ChangeShapes Go.WideShapes Go.ChangeAt Go.RowKit

/-- Is x from lo to hi? -/
def inB (lo hi x : Int) : Bool := decide (lo ≤ x ∧ x ≤ hi)
theorem inB_true {lo hi x : Int} (h : inB lo hi x = true) : lo ≤ x ∧ x ≤ hi := by simpa [inB] using h
theorem inB_of {lo hi x : Int} (h : lo ≤ x) (h2 : x ≤ hi) : inB lo hi x = true := by simp [inB, h, h2]

theorem l1In_any (x lo hi : Int) (w : World) :
    Calls Tryz.prog 66 #[.int .i64 x, .int .i64 lo, .int .i64 hi] w fun e w' => e = .returned (.bool (inB lo hi x)) ∧ w = w' := by
  by_cases h : lo ≤ x
  · by_cases h2 : x ≤ hi
    · have hb : inB lo hi x = true := by simp [inB, h, h2]
      rw [hb]; clear hb
      go_enter Tryz.func66, Tryz.ntmps66
      go_wp2
      go_ret
      exact ⟨rfl, rfl⟩
    · have hb : inB lo hi x = false := by simp [inB, h2]
      rw [hb]; clear hb
      go_enter Tryz.func66, Tryz.ntmps66
      go_wp2
      go_ret
      exact ⟨rfl, rfl⟩
  · have hb : inB lo hi x = false := by simp [inB, h]
    rw [hb]; clear hb
    go_enter Tryz.func66, Tryz.ntmps66
    go_wp2
    go_ret
    exact ⟨rfl, rfl⟩
end Go.Proofs.YtlnnchgaloejlaaGreat
namespace Go.Proofs.YtlnnchgaloejlaaGreat
open Go.ChangeShapes Go.WideShapes Go.ChangeAt Go.RowKit

/-- Is it a byte from a to z? -/
def letB (c : Int) : Bool := decide (97 ≤ c ∧ c ≤ 122)
theorem letB_true {c : Int} (h : letB c = true) : 97 ≤ c ∧ c ≤ 122 := by simpa [letB] using h
theorem letB_false {c : Int} (h : letB c = false) : c < 97 ∨ 122 < c := by
  simp only [letB, decide_eq_false_iff_not] at h; omega

/-- The first k bytes are letters. -/
def Lets (s : ByteArray) (k : Nat) : Prop := ∀ j (h : j < s.size), j < k → letB (s[j].toNat : Int) = true
instance (s : ByteArray) (k : Nat) : Decidable (Lets s k) := inferInstanceAs (Decidable (∀ j (h : j < s.size), j < k → letB (s[j].toNat : Int) = true))
/-- A name: 1 to 6 bytes of a to z. -/
def nameB (s : ByteArray) : Bool := decide (1 ≤ s.size ∧ s.size ≤ 6 ∧ Lets s s.size)

theorem nameB_of {s : ByteArray} (h1 : 1 ≤ s.size) (h2 : s.size ≤ 6) (h : Lets s s.size) : nameB s = true := by simp [nameB, h1, h2, h]
theorem nameB_true {s : ByteArray} (h : nameB s = true) : 1 ≤ s.size ∧ s.size ≤ 6 ∧ Lets s s.size := by simpa [nameB] using h
theorem nameB_size {s : ByteArray} (h : s.size = 0 ∨ 6 < s.size) : nameB s = false := by
  simp only [nameB, decide_eq_false_iff_not]; rintro ⟨h1, h2, _⟩; omega
theorem nameB_bad {s : ByteArray} {k : Nat} (hk : k < s.size) (h : letB (s[k].toNat : Int) = false) : nameB s = false := by
  simp only [nameB, decide_eq_false_iff_not]; rintro ⟨_, _, h3⟩; rw [h3 k hk hk] at h; cases h
theorem Lets.zero (s : ByteArray) : Lets s 0 := fun _ _ h => by omega
theorem Lets.succ {s : ByteArray} {k : Nat} (h : Lets s k) (hk : k < s.size) (hl : letB (s[k].toNat : Int) = true) : Lets s (k + 1) := by
  intro j hj hlt
  by_cases e : j = k
  · subst e; exact hl
  · exact h j hj (by omega)
theorem nameB_len {s : ByteArray} (h : Lets s s.size) : nameB s = inB 1 6 (s.size : Int) := by
  by_cases h1 : 1 ≤ s.size
  · by_cases h2 : s.size ≤ 6
    · rw [nameB_of h1 h2 h]; symm; simp [inB]; omega
    · rw [nameB_size (by omega)]; symm; simp [inB]; omega
  · rw [nameB_size (by omega)]; symm; simp [inB]; omega

set_option maxHeartbeats 1000000 in
set_option maxRecDepth 100000 in
theorem sNameOk_any (s : ByteArray) (w : World) (hs : s.size ≤ maxLen) :
    Calls Tryz.prog 83 #[.string s] w fun e w' => e = .returned (.bool (nameB s)) ∧ w = w' := by
  unfold maxLen at hs
  go_enter Tryz.func83, Tryz.ntmps83
  go_wp2
  go_loop [3] (fun i => ∃ k : Nat, k ≤ s.size ∧ i = .int .i64 k ∧ Lets s k) (fun i => s.size - (intOf i).toNat)
  case atStart => exact ⟨0, Nat.zero_le _, rfl, Lets.zero s⟩
  case round =>
    obtain ⟨k, hk, rfl, hl⟩ := hrel
    by_cases hlt : k < s.size
    · cases hb : letB (s[k].toNat : Int)
      · have hn := Lib.hid (nameB_bad hlt hb)
        rcases letB_false hb with h1 | h1
        · clear hb
          go_wp2
          go_ret
          exact ⟨by rw [hn.out]; rfl, rfl⟩
        · have h0 : ¬ (s[k].toNat : Int) < 97 := by omega
          clear hb
          go_wp2
          go_ret
          exact ⟨by rw [hn.out]; rfl, rfl⟩
      · have hl2 := hl.succ hlt hb
        obtain ⟨h0, h1⟩ := letB_true hb
        clear hb
        go_wp2
        go_round
        case rel => exact ⟨k + 1, by omega, by go_num, hl2⟩
        case measure => simp [intOf]; omega
    · obtain rfl : k = s.size := by omega
      have hn := Lib.hid (nameB_len hl)
      go_wp2_with (go_at_call 66; refine (l1In_any _ _ _ _).mono ?_; rintro e w' ⟨rfl, rfl⟩)
      go_ret
      exact ⟨by rw [hn.out]; rfl, rfl⟩

section
variable {P : Program} {a : Act} {w : World} {Q : Exit → Act → World → Prop}
/-- As Q; by a goto to label l: what J asks there. -/
def gotosTo (J : Nat → Act → World → Prop) (Q : Exit → Act → World → Prop) : Exit → Act → World → Prop
  | .goto l, a, w => J l a w
  | e, a, w => Q e a w
theorem gotosTo_ret {J : Nat → Act → World → Prop} : gotosTo J Q .ret a w = Q .ret a w := rfl

/-- A scope of as many labels as there are: what holds at every jump to each, and a measure that each pass from a label lowers. -/
theorem wp_scope_gotos {c : Code} (J : Nat → Act → World → Prop) (m : Nat → Act → World → Nat)
    (first : c.wp P (gotosTo J Q) a w)
    (pass : ∀ l a w, J l a w → ∃ rest, findLabel c l = some rest ∧ rest.wp P (gotosTo (fun l' a' w' => J l' a' w' ∧ m l' a' w' < m l a w) Q) a w) : (Code.scope c).wp P Q a w := by
  intro b k cs
  have key : ∀ n l a w, m l a w = n → J l a w → ∃ rest, findLabel c l = some rest ∧ ∃ e a' w', Q e a' w' ∧ Arrives P (lone (b.at a (.code rest :: .inScope c :: k)) cs w) b k cs e a' w' := by
    intro n
    induction n using Nat.strongRecOn with
    | _ n ih =>
      intro l a w hn hJ
      obtain ⟨rest, hf, hp⟩ := pass l a w hJ
      refine ⟨rest, hf, ?_⟩
      obtain ⟨e, a1, w1, hq, harr⟩ := hp b (.inScope c :: k) cs
      cases e with
      | normal => exact ⟨.normal, a1, w1, hq, Steps.trans harr (.one step_inScope)⟩
      | exit id => exact ⟨.exit id, a1, w1, hq, fun k' hk => harr k' (by simp [exitTo, hk])⟩
      | goto l' =>
        obtain ⟨hJ', hlt⟩ := hq
        obtain ⟨rest', hf', e2, a2, w2, hq2, harr2⟩ := ih _ (by omega) l' a1 w1 rfl hJ'
        exact ⟨e2, a2, w2, hq2, .of_steps (harr _ (by simp [gotoIn, hf'])) harr2⟩
      | ret => exact ⟨_, a1, w1, hq, harr⟩
      | panic ch => exact ⟨_, a1, w1, hq, harr⟩
      | outgrown => exact ⟨_, a1, w1, hq, harr⟩
  obtain ⟨e, a1, w1, hq, harr⟩ := first b (.inScope c :: k) cs
  cases e with
  | normal => exact ⟨.normal, a1, w1, hq, .head step_scope (Steps.trans harr (.one step_inScope))⟩
  | exit id => exact ⟨.exit id, a1, w1, hq, fun k' hk => .head step_scope (harr k' (by simp [exitTo, hk]))⟩
  | goto l' =>
    obtain ⟨rest', hf', e2, a2, w2, hq2, harr2⟩ := key _ l' a1 w1 rfl hq
    exact ⟨e2, a2, w2, hq2, .of_steps (.head step_scope (harr _ (by simp [gotoIn, hf']))) harr2⟩
  | ret => exact ⟨_, a1, w1, hq, .of_steps (.one step_scope) harr⟩
  | panic ch => exact ⟨_, a1, w1, hq, .of_steps (.one step_scope) harr⟩
  | outgrown => exact ⟨_, a1, w1, hq, .of_steps (.one step_scope) harr⟩
end

theorem isLetter_any (c : Int) (w : World) :
    Calls Tryz.prog 161 #[.int .u8 c] w fun e w' => e = .returned (.bool (letB c)) ∧ w = w' := by
  by_cases h : 97 ≤ c
  · by_cases h2 : c ≤ 122
    · have hb : letB c = true := by simp [letB, h, h2]
      rw [hb]; clear hb
      go_enter Tryz.func161, Tryz.ntmps161
      go_wp2
      go_ret
      exact ⟨rfl, rfl⟩
    · have hb : letB c = false := by simp [letB, h2]
      rw [hb]; clear hb
      go_enter Tryz.func161, Tryz.ntmps161
      go_wp2
      go_ret
      exact ⟨rfl, rfl⟩
  · have hb : letB c = false := by simp [letB, h]
    rw [hb]; clear hb
    go_enter Tryz.func161, Tryz.ntmps161
    go_wp2
    go_ret
    exact ⟨rfl, rfl⟩

/-- What holds at each jump: label 0: it is no name; label 2: it is one; label 1: byte k is there, and all ahead of it are letters. -/
def NJ (s : ByteArray) (w : World) (l : Nat) (a : Act) (w' : World) : Prop :=
  w = w' ∧ ∃ x3 u4 u5 u6 u7 u8 u9 u10 u11 u12 u13 u14 u15 u16 u17 u18 u19 : Value, a = { tmps := #[.string s, undef, .bool false, x3, u4, u5, u6, u7, u8, u9, u10, u11, u12, u13, u14, u15, u16, u17, u18, u19], defers := [] } ∧
    ((l = 0 ∧ nameB s = false) ∨ (l = 2 ∧ nameB s = true) ∨ (l = 1 ∧ ∃ k : Nat, x3 = .int .i64 k ∧ k < s.size ∧ k < 6 ∧ Lets s k))
def NM (l : Nat) (a : Act) (_ : World) : Nat := if l = 1 then 7 - (intOf (a.tmps.getD 3 undef)).toNat else 0

theorem NJ.no {s : ByteArray} {w : World} {x3 u4 u5 u6 u7 u8 u9 u10 u11 u12 u13 u14 u15 u16 u17 u18 u19 : Value} (h : nameB s = false) : NJ s w 0 { tmps := #[.string s, undef, .bool false, x3, u4, u5, u6, u7, u8, u9, u10, u11, u12, u13, u14, u15, u16, u17, u18, u19], defers := [] } w :=
  ⟨rfl, x3, u4, u5, u6, u7, u8, u9, u10, u11, u12, u13, u14, u15, u16, u17, u18, u19, rfl, .inl ⟨rfl, h⟩⟩
theorem NJ.yes {s : ByteArray} {w : World} {x3 u4 u5 u6 u7 u8 u9 u10 u11 u12 u13 u14 u15 u16 u17 u18 u19 : Value} (h : nameB s = true) : NJ s w 2 { tmps := #[.string s, undef, .bool false, x3, u4, u5, u6, u7, u8, u9, u10, u11, u12, u13, u14, u15, u16, u17, u18, u19], defers := [] } w :=
  ⟨rfl, x3, u4, u5, u6, u7, u8, u9, u10, u11, u12, u13, u14, u15, u16, u17, u18, u19, rfl, .inr (.inl ⟨rfl, h⟩)⟩
theorem NJ.on {s : ByteArray} {w : World} {k : Nat} {u4 u5 u6 u7 u8 u9 u10 u11 u12 u13 u14 u15 u16 u17 u18 u19 : Value} (h1 : k < s.size) (h2 : k < 6) (h : Lets s k) : NJ s w 1 { tmps := #[.string s, undef, .bool false, .int .i64 k, u4, u5, u6, u7, u8, u9, u10, u11, u12, u13, u14, u15, u16, u17, u18, u19], defers := [] } w :=
  ⟨rfl, _, u4, u5, u6, u7, u8, u9, u10, u11, u12, u13, u14, u15, u16, u17, u18, u19, rfl, .inr (.inr ⟨rfl, k, rfl, h1, h2, h⟩)⟩

set_option maxRecDepth 100000 in
set_option maxHeartbeats 1000000 in
set_option maxRecDepth 100000 in
theorem iNameOk_any (s : ByteArray) (w : World) (hs : s.size ≤ maxLen) :
    Calls Tryz.prog 140 #[.string s] w fun e w' => e = .returned (.bool (nameB s)) ∧ w = w' := by
  unfold maxLen at hs
  go_enter Tryz.func140, Tryz.ntmps140
  go_wp2
  refine wp_scope_gotos (NJ s w) NM ?_ ?_
  · by_cases h0 : s.size = 0
    · have hn := Lib.hid (nameB_size (Or.inl h0))
      go_wp2
      go_step3
      exact NJ.no hn.out
    · have hl : 0 < s.size := by omega
      cases hb : letB (s[0].toNat : Int)
      · have hn := Lib.hid (nameB_bad hl hb)
        go_wp2
        go_step3
        go_wp2_with (go_at_call 161; refine (isLetter_any _ _).mono ?_; rintro e w' ⟨rfl, rfl⟩; rw [hb])
        go_step3
        exact NJ.no hn.out
      · have h1 := Lib.hid ((Lets.zero s).succ hl hb)
        by_cases hz : s.size = 1
        · have hn := Lib.hid (nameB_of (s := s) (by omega) (by omega) (by rw [hz]; exact h1.out))
          have hq : ((1 : Int) == (s.size : Int)) = true := by simp [hz]
          clear hz
          go_wp2
          go_step3
          go_wp2_with (go_at_call 161; refine (isLetter_any _ _).mono ?_; rintro e w' ⟨rfl, rfl⟩; rw [hb])
          go_step3
          exact NJ.yes hn.out
        · have hq : ((1 : Int) == (s.size : Int)) = false := beq_false_of_ne (by omega)
          go_wp2
          go_step3
          go_wp2_with (go_at_call 161; refine (isLetter_any _ _).mono ?_; rintro e w' ⟨rfl, rfl⟩; rw [hb])
          go_step3
          exact NJ.on (k := 1) (by omega) (by omega) h1.out
  · rintro l a w' ⟨rfl, x3, u4, u5, u6, u7, u8, u9, u10, u11, u12, u13, u14, u15, u16, u17, u18, u19, rfl, ⟨rfl, hn⟩ | ⟨rfl, hn⟩ | ⟨rfl, k, rfl, hk, hk6, hl⟩⟩
    · have hn := Lib.hid hn
      refine ⟨_, rfl, ?_⟩
      go_wp2
      rw [gotosTo_ret]
      go_ret
      exact ⟨by rw [hn.out]; rfl, rfl⟩
    · have hn := Lib.hid hn
      refine ⟨_, rfl, ?_⟩
      go_wp2
      rw [gotosTo_ret]
      go_ret
      exact ⟨by rw [hn.out]; rfl, rfl⟩
    · refine ⟨_, rfl, ?_⟩
      have hM : NM 1 { tmps := #[.string s, undef, .bool false, .int .i64 (k : Int), u4, u5, u6, u7, u8, u9, u10, u11, u12, u13, u14, u15, u16, u17, u18, u19], defers := [] } w = 7 - k := by simp [NM, intOf]
      have HM := Lib.hid hM
      clear hM
      cases hb : letB (s[k].toNat : Int)
      · have hn := Lib.hid (nameB_bad hk hb)
        go_wp2_with (go_at_call 161; refine (isLetter_any _ _).mono ?_; rintro e w' ⟨rfl, rfl⟩; rw [hb])
        go_step3
        exact ⟨NJ.no hn.out, by rw [HM.out]; simp [NM]; omega⟩
      · have h1 := Lib.hid (hl.succ hk hb)
        by_cases hz : k + 1 = s.size
        · have hn := Lib.hid (nameB_of (s := s) (by omega) (by omega) (by rw [← hz]; exact h1.out))
          have hq : (((k : Int) + 1) == (s.size : Int)) = true := by simp; omega
          clear hz
          go_wp2_with (go_at_call 161; refine (isLetter_any _ _).mono ?_; rintro e w' ⟨rfl, rfl⟩; rw [hb])
          go_step3
          exact ⟨NJ.yes hn.out, by rw [HM.out]; simp [NM]; omega⟩
        · have hq : (((k : Int) + 1) == (s.size : Int)) = false := beq_false_of_ne (by omega)
          by_cases h6 : k + 1 < 6
          · go_wp2_with (go_at_call 161; refine (isLetter_any _ _).mono ?_; rintro e w' ⟨rfl, rfl⟩; rw [hb])
            go_step3
            exact ⟨NJ.on (k := k + 1) (by omega) (by omega) h1.out, by rw [HM.out]; simp [NM, intOf]; omega⟩
          · have hn := Lib.hid (nameB_size (s := s) (by omega))
            go_wp2_with (go_at_call 161; refine (isLetter_any _ _).mono ?_; rintro e w' ⟨rfl, rfl⟩; rw [hb])
            go_step3
            go_wp2
            rw [gotosTo_ret]
            go_ret
            exact ⟨by rw [hn.out]; rfl, rfl⟩
end Go.Proofs.YtlnnchgaloejlaaGreat
namespace Go.Proofs.YtlnnchgaloejlaaGreat
open Go.ChangeShapes Go.WideShapes Go.ChangeAt Go.RowKit

/-- These strings lie one behind the other from a on. -/
def Strs (w : World) (a : Option Addr) (ss : List ByteArray) : Prop := Lies w a (ss.map .string)

theorem Strs.at {w : World} {a : Option Addr} {ss : List ByteArray} (h : Strs w a ss) (k : Nat) (hk : k < ss.length) :
    ∃ b off, a = some ⟨b, off, none⟩ ∧ b < w.heap.size ∧ w.cell? ⟨b, off + k, none⟩ = some (.string ss[k]) := by
  obtain ⟨b, off, e, hc⟩ := h k (.string ss[k]) (by simp [hk])
  exact ⟨b, off, e, at_lt hc, hc⟩
theorem Strs.below {w w' : World} {a : Option Addr} {ss : List ByteArray} (h : Strs w a ss) (hb : Below w.heap.size w w') : Strs w' a ss := Lies.below h hb
end Go.Proofs.YtlnnchgaloejlaaGreat
namespace Go.Proofs.YtlnnchgaloejlaaGreat
open Go.ChangeShapes Go.WideShapes Go.ChangeAt Go.RowKit

/-- The one of that number. -/
def sat (ss : List ByteArray) (j : Nat) : ByteArray := ss.getD j ByteArray.empty
theorem sat_eq {ss : List ByteArray} {j : Nat} (h : j < ss.length) : sat ss j = ss[j] := by simp [sat, h]
/-- Is a no greater than b, byte by byte? -/
def leqB (a b : ByteArray) : Bool := Op.bytesLess a.toList b.toList || a.toList == b.toList
/-- The first n are names, each greater than the one ahead. -/
def Up (ss : List ByteArray) (n : Nat) : Prop :=
  (∀ j, j < n → nameB (sat ss j) = true) ∧ ∀ j, j < n - 1 → leqB (sat ss (j + 1)) (sat ss j) = false
instance (ss : List ByteArray) (n : Nat) : Decidable (Up ss n) :=
  inferInstanceAs (Decidable ((∀ j, j < n → nameB (sat ss j) = true) ∧ ∀ j, j < n - 1 → leqB (sat ss (j + 1)) (sat ss j) = false))
/-- They rise. -/
def risesB (ss : List ByteArray) : Bool := decide (Up ss ss.length)

theorem Up.zero (ss : List ByteArray) : Up ss 0 := ⟨fun _ h => by omega, fun _ h => by omega⟩
theorem Up.one {ss : List ByteArray} (h : nameB (sat ss 0) = true) : Up ss 1 :=
  ⟨fun j hj => by obtain rfl : j = 0 := by omega
                  exact h, fun _ h => by omega⟩
theorem Up.succ {ss : List ByteArray} {k : Nat} (h : Up ss (k + 1)) (h1 : nameB (sat ss (k + 1)) = true) (h2 : leqB (sat ss (k + 1)) (sat ss k) = false) : Up ss (k + 2) :=
  ⟨fun j hj => by
    by_cases e : j = k + 1
    · subst e; exact h1
    · exact h.1 j (by omega), fun j hj => by
    by_cases e : j = k
    · subst e; exact h2
    · exact h.2 j (by omega)⟩
theorem rises_no {ss : List ByteArray} {k : Nat} (hk : k < ss.length) (h : nameB (sat ss k) = false) : risesB ss = false := by
  simp only [risesB, decide_eq_false_iff_not]; rintro ⟨h1, _⟩; rw [h1 k hk] at h; cases h
theorem rises_not {ss : List ByteArray} {k : Nat} (hk : k + 1 < ss.length) (h : leqB (sat ss (k + 1)) (sat ss k) = true) : risesB ss = false := by
  simp only [risesB, decide_eq_false_iff_not]; rintro ⟨_, h2⟩; rw [h2 k (by omega)] at h; cases h
theorem rises_yes {ss : List ByteArray} (h : Up ss ss.length) : risesB ss = true := by simp [risesB, h]
theorem rises_true {ss : List ByteArray} (h : risesB ss = true) : Up ss ss.length := by simpa [risesB] using h

theorem strs_sat {w : World} {a : Option Addr} {ss : List ByteArray} (h : Strs w a ss) (k : Nat) (hk : k < ss.length) :
    ∃ b off, a = some ⟨b, off, none⟩ ∧ w.cell? ⟨b, off + k, none⟩ = some (.string (sat ss k)) := by
  obtain ⟨b, off, e, _, hc⟩ := h.at k hk
  exact ⟨b, off, e, by rw [sat_eq hk]; exact hc⟩

def Sized (ss : List ByteArray) : Prop := ∀ k, (sat ss k).size ≤ maxLen
theorem Sized.of {ss : List ByteArray} {n : Nat} (h : ∀ s ∈ ss, s.size ≤ n) (hn : n ≤ maxLen) : Sized ss := by
  intro k
  by_cases hk : k < ss.length
  · rw [sat_eq hk]; exact Nat.le_trans (h _ (List.getElem_mem hk)) hn
  · have : sat ss k = ByteArray.empty := by simp [sat, hk]
    rw [this]; exact Nat.zero_le _

theorem drawn_more {w : World} (n m : Nat) : ∃ k, (w.drewN n).drewN m = w.drewN k := ⟨n + m, World.drewN_drewN _ _ _⟩
/-- In a region that draws: a callee that leaves the world alone and answers what is known. -/
theorem quiet_is {P : Program} {f : FuncId} {args : Array Value} {w : World} {n : Nat} {b c : Bool} (e : b = c)
    (h : Calls P f args (w.drewN n) fun e w' => e = .returned (.bool b) ∧ w.drewN n = w') : Calls P f args (w.drewN n) fun e w'' => e = .returned (.bool c) ∧ ∃ m, w'' = w.drewN m :=
  h.mono fun _ _ ⟨he, hm⟩ => ⟨by rw [he, e], n, hm.symm⟩
theorem quiet_is2 {P : Program} {f : FuncId} {args : Array Value} {w : World} {a n : Nat} {b c : Bool} (e : b = c)
    (h : Calls P f args (w.drewN (a + n)) fun e w' => e = .returned (.bool b) ∧ w.drewN (a + n) = w') : Calls P f args (w.drewN (a + n)) fun e w'' => e = .returned (.bool c) ∧ ∃ m, w'' = w.drewN (a + m) :=
  h.mono fun _ _ ⟨he, hm⟩ => ⟨by rw [he, e], n, hm.symm⟩

set_option maxHeartbeats 1000000 in
set_option maxRecDepth 100000 in
theorem iRises_any {w : World} {a : Option Addr} {ss : List ByteArray} (cap : Nat) (h : Strs w a ss) (hl : ss.length ≤ 9223372036854775807) (hs : Sized ss) :
    Calls Tryz.prog 135 #[.slice a ss.length cap] w fun e w' => e = .returned (.bool (risesB ss)) ∧ w = w' := by
  have H := Lib.hid h
  have HS := Lib.hid hs
  clear h hs
  go_enter Tryz.func135, Tryz.ntmps135
  go_wp2
  go_loop [7] (fun i => ∃ k : Nat, k ≤ ss.length ∧ i = .int .i64 k ∧ Up ss k) (fun i => ss.length - (intOf i).toNat)
  case atStart => exact ⟨0, Nat.zero_le _, rfl, Up.zero ss⟩
  case round =>
    obtain ⟨k, hk, rfl, hu⟩ := hrel
    have HU := Lib.hid hu
    clear hu
    by_cases hlt : k < ss.length
    · obtain ⟨b, off, rfl, hc⟩ := strs_sat H.out k hlt
      cases hn : nameB (sat ss k)
      · have HN := Lib.hid (rises_no hlt hn)
        go_wp2_with (go_at_call 140; refine (iNameOk_any _ _ (HS.out _)).mono ?_; rintro e w' ⟨rfl, rfl⟩; rw [hn])
        go_ret
        exact ⟨by rw [HN.out]; rfl, rfl⟩
      · cases k with
        | zero =>
          have HN := Lib.hid (Up.one hn)
          have hc0 : w.cell? ⟨b, off, none⟩ = some (.string (sat ss 0)) := hc
          go_wp2_with (go_at_call 140; refine (iNameOk_any _ _ (HS.out _)).mono ?_; rintro e w' ⟨rfl, rfl⟩; rw [hn])
          go_round
          case rel => exact ⟨1, by omega, by go_num, HN.out⟩
          case measure => simp [intOf]; omega
        | succ m =>
          obtain ⟨b', off', e', hc'⟩ := strs_sat H.out m (by omega)
          obtain ⟨rfl, rfl⟩ : b' = b ∧ off' = off := by injection e' with e'; injection e' with e1 e2; exact ⟨e1.symm, e2.symm⟩
          clear e'
          cases hq : (Op.bytesLess (sat ss (m + 1)).toList (sat ss m).toList || (sat ss (m + 1)).toList == (sat ss m).toList)
          · have HN := Lib.hid (HU.out.succ hn hq)
            go_wp2_with (go_at_call 140; refine (iNameOk_any _ _ (HS.out _)).mono ?_; rintro e w' ⟨rfl, rfl⟩; rw [hn])
            go_round
            case rel => exact ⟨m + 2, by omega, by go_num, HN.out⟩
            case measure => simp [intOf]; omega
          · have HN := Lib.hid (rises_not hlt hq)
            go_wp2_with (go_at_call 140; refine (iNameOk_any _ _ (HS.out _)).mono ?_; rintro e w' ⟨rfl, rfl⟩; rw [hn])
            go_ret
            exact ⟨by rw [HN.out]; rfl, rfl⟩
    · obtain rfl : k = ss.length := by omega
      have HN := Lib.hid (rises_yes HU.out)
      go_wp2
      go_ret
      exact ⟨by rw [HN.out]; rfl, rfl⟩

/-- It is none of the first n. -/
def Out (ss : List ByteArray) (s : ByteArray) (n : Nat) : Prop := ∀ j, j < n → ((sat ss j).toList == s.toList) = false
theorem Out.zero (ss : List ByteArray) (s : ByteArray) : Out ss s 0 := fun _ h => by omega
theorem Out.succ {ss : List ByteArray} {s : ByteArray} {k : Nat} (h : Out ss s k) (h1 : ((sat ss k).toList == s.toList) = false) : Out ss s (k + 1) := by
  intro j hj
  by_cases e : j = k
  · subst e; exact h1
  · exact h j (by omega)
/-- Where it is first, from the front on, among the first n. -/
def placeUp (ss : List ByteArray) (s : ByteArray) : Nat → Int
  | 0 => -1
  | n + 1 => if placeUp ss s n = -1 then (if (sat ss n).toList == s.toList then (n : Int) else -1) else placeUp ss s n
def placeV (ss : List ByteArray) (s : ByteArray) : Int := placeUp ss s ss.length
theorem placeUp_out {ss : List ByteArray} {s : ByteArray} : ∀ {n : Nat}, Out ss s n → placeUp ss s n = -1
  | 0, _ => rfl
  | n + 1, h => by
    rw [placeUp, if_pos (placeUp_out fun j hj => h j (by omega)), h n (by omega)]; rfl
theorem placeUp_in {ss : List ByteArray} {s : ByteArray} {k : Nat} (h : Out ss s k) (hk : ((sat ss k).toList == s.toList) = true) : ∀ m, placeUp ss s (k + 1 + m) = k
  | 0 => by rw [Nat.add_zero, placeUp, if_pos (placeUp_out h), hk]; rfl
  | m + 1 => by
    have := placeUp_in h hk m
    rw [← Nat.add_assoc, placeUp, this, if_neg (by omega)]
theorem place_out {ss : List ByteArray} {s : ByteArray} (h : Out ss s ss.length) : placeV ss s = -1 := placeUp_out h
theorem place_in {ss : List ByteArray} {s : ByteArray} {k : Nat} (hk : k < ss.length) (h : Out ss s k) (he : ((sat ss k).toList == s.toList) = true) : placeV ss s = k := by
  have := placeUp_in h he (ss.length - (k + 1))
  rwa [show k + 1 + (ss.length - (k + 1)) = ss.length by omega] at this
theorem beq_turn {x y : List UInt8} {t : Bool} (h : (x == y) = t) : (y == x) = t := by
  rw [← h, Bool.eq_iff_iff, beq_iff_eq, beq_iff_eq]
  exact ⟨fun e => e.symm, fun e => e.symm⟩

set_option maxHeartbeats 1000000 in
set_option maxRecDepth 100000 in
theorem index_any {w : World} {a : Option Addr} {ss : List ByteArray} (cap : Nat) (s : ByteArray) (h : Strs w a ss) (hl : ss.length ≤ 9223372036854775807) :
    Calls Tryz.prog 163 #[.slice a ss.length cap, .string s] w fun e w' => e = .returned (.int .i64 (placeV ss s)) ∧ w = w' := by
  have H := Lib.hid h
  clear h
  go_enter Tryz.func163, Tryz.ntmps163
  go_wp2
  go_loop [8] (fun i => ∃ k : Nat, k ≤ ss.length ∧ i = .int .i64 k ∧ Out ss s k) (fun i => ss.length - (intOf i).toNat)
  case atStart => exact ⟨0, Nat.zero_le _, rfl, Out.zero ss s⟩
  case round =>
    obtain ⟨k, hk, rfl, hu⟩ := hrel
    have HU := Lib.hid hu
    clear hu
    by_cases hlt : k < ss.length
    · obtain ⟨b, off, rfl, hc⟩ := strs_sat H.out k hlt
      cases hq : (s.toList == (sat ss k).toList)
      · have HN := Lib.hid (HU.out.succ (beq_turn hq))
        go_wp2
        go_round
        case rel => exact ⟨k + 1, by omega, by go_num, HN.out⟩
        case measure => simp [intOf]; omega
      · have HN := Lib.hid (place_in hlt HU.out (beq_turn hq))
        go_wp2
        go_ret
        exact ⟨by rw [HN.out]; rfl, rfl⟩
    · obtain rfl : k = ss.length := by omega
      have HN := Lib.hid (place_out HU.out)
      go_wp2
      go_ret
      exact ⟨by rw [HN.out]; rfl, rfl⟩

theorem placeUp_bd (ss : List ByteArray) (s : ByteArray) : ∀ n, -1 ≤ placeUp ss s n ∧ placeUp ss s n < n
  | 0 => by simp [placeUp]
  | n + 1 => by
    have := placeUp_bd ss s n
    rw [placeUp]
    split
    · split <;> omega
    · omega

theorem iPlaceIn_any {w : World} {a : Option Addr} {ss : List ByteArray} (cap : Nat) (s : ByteArray) (h : Strs w a ss) (hl : ss.length ≤ 9223372036854775807) :
    Calls Tryz.prog 142 #[.slice a ss.length cap, .string s] w fun e w' => e = .returned (.int .i64 (placeV ss s)) ∧ w = w' := by
  have hb := placeUp_bd ss s ss.length
  have h1 : -1 ≤ placeV ss s := hb.1
  have h2 : placeV ss s < ss.length := hb.2
  clear hb
  go_enter Tryz.func142, Tryz.ntmps142
  go_wp2_with (go_at_call 163; refine (index_any _ _ h hl).mono ?_; rintro e w' ⟨rfl, rfl⟩)
  go_ret
  exact ⟨rfl, rfl⟩
end Go.Proofs.YtlnnchgaloejlaaGreat
