/-
  Texts joined: Mem, Many, Recs, Mark, Grow, RecMill, RecPart, RecWait, L1In.
-/
import Derived.Test.YtncandoohlndnaaGreatRows
import Derived.WalkKit
import Derived.ProofKit
import Derived.OpenShut
import Derived.Outline
import Derived.WalkLawsBesides
import Derived.Below
import Derived.LoopN
import Derived.Lib.Hide
import Derived.Deep.QuietTactic
import Derived.BigQuiet
import Derived.Deep.OwnRows
import Derived.Laws.Cover1
import Derived.Laws.CopyRow
import Derived.Laws.CopyOwn
import Derived.OwnWalk
import Derived.Deep.AppendLies
import Derived.Laws.IdiomStrings
import Derived.Deep.Quiet
import Derived.StillTailTactics
import Derived.Deep.RegionHeld3
namespace Go.Proofs.YtncandoohlndnaaGreat
open Go.ChangeShapes Go.WideShapes Go.ChangeAt Go.RowKit

theorem at_lt {w : World} {b o : Nat} {v : Value} (h : w.cell? ⟨b, o, none⟩ = some v) : b < w.heap.size := by
  by_cases hb : b < w.heap.size
  · exact hb
  · exfalso
    have : w.heap[b]? = none := by simp; omega
    simp [World.cell?, this] at h

/-- These values lie one behind the other from a on. -/
def Lies (w : World) (a : Option Addr) (xs : List Value) : Prop :=
  ∀ k v, xs[k]? = some v → ∃ b off, a = some ⟨b, off, none⟩ ∧ w.cell? ⟨b, off + k, none⟩ = some v

theorem Lies.nil (w : World) (a : Option Addr) : Lies w a [] := fun _ _ h => by simp at h
theorem Lies.below {w w' : World} {a : Option Addr} {xs : List Value} (h : Lies w a xs) (hb : Below w.heap.size w w') : Lies w' a xs := by
  intro k v hk
  obtain ⟨b, off, rfl, hc⟩ := h k v hk
  exact ⟨b, off, rfl, by rw [hb.cell (at_lt hc)]; exact hc⟩
theorem Lies.under {w w' : World} {B : Nat} {a : Option Addr} {xs : List Value} (h : Lies w a xs) (hb : Below B w w') (hB : ∀ b off, a = some ⟨b, off, none⟩ → 0 < xs.length → b < B) : Lies w' a xs := by
  intro k v hk
  obtain ⟨b, off, rfl, hc⟩ := h k v hk
  have hl : 0 < xs.length := by
    cases xs with
    | nil => simp at hk
    | cons x r => simp
  exact ⟨b, off, rfl, by rw [hb.cell (hB b off rfl hl)]; exact hc⟩
theorem Lies.old {w : World} {a : Option Addr} {xs : List Value} (h : Lies w a xs) : ∀ b off, a = some ⟨b, off, none⟩ → 0 < xs.length → b < w.heap.size := by
  intro b off e hl
  obtain ⟨b', off', e', hc⟩ := h 0 xs[0] (List.getElem?_eq_getElem hl)
  rw [e] at e'
  injection e' with e'
  injection e' with e1
  subst e1
  exact at_lt hc
theorem Lies.draws {w : World} {a : Option Addr} {xs : List Value} (h : Lies w a xs) (n : Nat) : Lies (w.drewN n) a xs := h

theorem below_draws {B : Nat} {a w : World} (h : Below B a w) (n : Nat) : Below B a (w.drewN n) := ⟨h.os, h.tape, h.output, h.size, h.block⟩
theorem below_trans {w w1 w2 : World} (h : Below w.heap.size w w1) (k : Below w1.heap.size w1 w2) : Below w.heap.size w w2 := h.trans (k.mono h.size)

/-- All that was there reads as before: two rules for the walk. -/
theorem kept_all {W w1 : World} (hb : Below W.heap.size W w1) : (∀ b o, b < W.heap.size → w1.cell? ⟨b, o, none⟩ = W.cell? ⟨b, o, none⟩) ∧ ∀ b o, b < W.heap.size → w1.frozen? ⟨b, o, none⟩ = W.frozen? ⟨b, o, none⟩ :=
  ⟨fun b o h => hb.cell (p := ⟨b, o, none⟩) h, fun b o h => hb.frozen (p := ⟨b, o, none⟩) h⟩

/-- Block B, the first one that is not w's: n cells of the call's own, of which the first k hold xs's. -/
structure Room (w : World) (n : Nat) (xs : List Value) (k : Nat) (w' : World) : Prop where
  low : Below w.heap.size w w'
  has : w.heap.size < w'.heap.size
  all : ∀ j, j < n → ∃ v, w'.cell? ⟨w.heap.size, j, none⟩ = some v
  free : ∀ o, w'.frozen? ⟨w.heap.size, o, none⟩ = false
  full : ∀ j v, j < k → xs[j]? = some v → w'.cell? ⟨w.heap.size, j, none⟩ = some v

theorem Room.new (w : World) (z : Value) (n : Nat) (t : TypeId) (xs : List Value) : Room w n xs 0 (w.alloc (.cells (madeCells #[z] n) t)) where
  low := (Below.refl _ _).alloc (Nat.le_refl _) _
  has := by simp
  all := fun j hj => ⟨z, by
    obtain ⟨c, hc, hs, hf⟩ := World.rowIs_made w z n t
    simp only [World.cell?, hc]
    simpa using hf j hj⟩
  free := fun o => by go_simp
  full := fun j v hj _ => by omega

theorem Room.set {w w' : World} {n k : Nat} {xs : List Value} {v : Value} (h : Room w n xs k w') (hk : k < n) (hv : xs[k]? = some v) : Room w n xs (k + 1) (w'.setCell ⟨w.heap.size, k, none⟩ v) where
  low := h.low.setCell (Nat.le_refl _) _
  has := by have := h.has; simpa [World.setCell] using this
  all := fun j hj => by
    by_cases e : j = k
    · subst e
      obtain ⟨u, hu⟩ := h.all j hj
      exact ⟨v, by rw [World.cell?_setCell_same _ _ _ hu]⟩
    · obtain ⟨u, hu⟩ := h.all j hj
      exact ⟨u, by rw [World.cell?_setCell_other _ _ _ _ (by intro q; injection q with _ q; exact e (by omega))]; exact hu⟩
  free := fun o => by have := h.free o; go_simp
  full := fun j u hj hu => by
    by_cases e : j = k
    · subst e
      obtain ⟨x, hx⟩ := h.all j hk
      rw [hv] at hu
      injection hu with hu
      subst hu
      rw [World.cell?_setCell_same _ _ _ hx]
    · rw [World.cell?_setCell_other _ _ _ _ (by intro q; injection q with _ q; exact e (by omega))]
      exact h.full j u (by omega) hu

theorem Room.draws {w w' : World} {n k : Nat} {xs : List Value} (h : Room w n xs k w') (m : Nat) : Room w n xs k (w'.drewN m) :=
  ⟨below_draws h.low m, h.has, h.all, h.free, h.full⟩

theorem Room.lies {w w' : World} {n : Nat} {xs : List Value} (h : Room w n xs n w') (hn : xs.length ≤ n) : Lies w' (some ⟨w.heap.size, 0, none⟩) xs := by
  intro k v hk
  have hlt : k < xs.length := (List.getElem?_eq_some_iff.1 hk).1
  exact ⟨_, _, rfl, by rw [Nat.zero_add]; exact h.full k v (by omega) hk⟩
end Go.Proofs.YtncandoohlndnaaGreat
namespace Go.Proofs.YtncandoohlndnaaGreat
open Go.ChangeShapes Go.WideShapes Go.ChangeAt Go.RowKit

/-- 'make([]T, n)', an element being of any number of cells. -/
theorem run_make_many {P : Program} (t e : TypeId) (z : Value) (size bytes : Nat) (ht : P.underlying t = some (.slice e)) (hinfo : (P.info? e).map (fun i => (i.zero, i.size, i.bytes)) = some (some z, size, bytes))
    (kl kc : IntKind) (n : Nat) (hbytes : bytes * n ≤ 281474976710656) (h63 : n ≤ 9223372036854775807) (w : World) :
    (Instr.makeSlice t (.int kl (n : Int)) (.int kc (n : Int))).run P w = .ok (.slice (some ⟨w.heap.size, 0, none⟩) n n) (w.alloc (.cells (madeCells z.cells (n * size)) e)) := by
  obtain ⟨i, hi, hzz⟩ := Option.map_eq_some_iff.1 hinfo
  simp only [Prod.mk.injEq] at hzz
  obtain ⟨hz, hs, hb⟩ := hzz
  have h' : (i.bytes : Int) * (n : Int) ≤ 281474976710656 := by
    have h : ((i.bytes * n : Nat) : Int) ≤ 281474976710656 := by rw [hb]; omega
    rwa [Int.natCast_mul] at h
  have hr := run_make (P := P) w t e i z ht hi hz kl kc n n (by omega) (Int.le_refl _) h' (by omega)
  simpa only [Int.toNat_natCast, hs] using hr

theorem Room.made (w : World) (z : Array Value) (n : Nat) (t : TypeId) (xs : List Value) : Room w n xs 0 (w.alloc (.cells (madeCells z n) t)) where
  low := (Below.refl _ _).alloc (Nat.le_refl _) _
  has := by simp
  all := fun j hj => by
    have hs : (madeCells z n).size = n := size_madeCells z n
    refine ⟨(madeCells z n)[j]'(by omega), ?_⟩
    simp only [World.cell?, heap_alloc_new]
    simp [hs, hj]
  free := fun o => by go_simp
  full := fun j v hj _ => by omega

theorem Room.below {w w' w2 : World} {n k : Nat} {xs : List Value} (h : Room w n xs k w') (hb : Below w'.heap.size w' w2) : Room w n xs k w2 where
  low := below_trans h.low hb
  has := Nat.lt_of_lt_of_le h.has hb.size
  all := fun j hj => by obtain ⟨v, hv⟩ := h.all j hj; exact ⟨v, by rw [hb.cell (p := ⟨w.heap.size, j, none⟩) h.has]; exact hv⟩
  free := fun o => by rw [hb.frozen (p := ⟨w.heap.size, o, none⟩) h.has]; exact h.free o
  full := fun j v hj hv => by rw [hb.cell (p := ⟨w.heap.size, j, none⟩) h.has]; exact h.full j v hj hv

theorem grown_keeps {w w' : World} {row : Option Nat} (h : w.grownBy w' row) {b o : Nat} (hb : b < w.heap.size) (hne : some b ≠ row) : w'.cell? ⟨b, o, none⟩ = w.cell? ⟨b, o, none⟩ :=
  World.cell?_of_block (h.block b hb hne)
theorem gid (w : World) (row : Option Nat) : w.grownBy w row := ⟨rfl, rfl, rfl, Nat.le_refl _, fun _ _ _ => rfl⟩
theorem gbelow {w w1 w2 : World} {row : Option Nat} (h : w.grownBy w1 row) (k : Below w1.heap.size w1 w2) : w.grownBy w2 row :=
  ⟨k.os.trans h.os, k.tape.trans h.tape, k.output.trans h.output, Nat.le_trans h.size k.size, fun i hi hne => (k.block i (Nat.lt_of_lt_of_le hi h.size)).trans (h.block i hi hne)⟩
theorem gset {w w1 : World} {b o : Nat} (h : w.grownBy w1 (some b)) (v : Value) : w.grownBy (w1.setCell ⟨b, o, none⟩ v) (some b) := by
  refine ⟨h.os, h.tape, h.output, Nat.le_trans h.size (by simp [World.setCell]), fun i hi hne => ?_⟩
  rw [Below.heap_setCell _ _ _ _ (by intro e; exact hne (by rw [e]))]
  exact h.block i hi hne
theorem bgrown {w w1 w2 : World} {B : Nat} {row : Option Nat} (h : Below B w w1) (hB : B ≤ w1.heap.size) (k : w1.grownBy w2 row) (hr : ∀ g, row = some g → B ≤ g) : Below B w w2 :=
  h.trans ⟨k.os, k.tape, k.output, k.size, fun i hi => k.block i (by omega) (by intro e; have := hr i e.symm; omega)⟩

/-- 'copy' of elements of any number of cells, over a whole row of the call's own. -/
theorem run_copy_many {P : Program} (w : World) (dT sT ty elem : TypeId) (size g dCap n : Nat) (sp : Option Addr) (sCap : Nat) (cur : Array Value) (t : TypeId) (cs : List Value)
    (hu : P.underlying dT = some (.slice elem)) (hs : (P.info? elem).map (·.size) = some size) (hsz : 0 < size) (hg : w.heap[g]? = some (.cells cur t (0, 0))) (hcur : cur.size = n * size) (hc : cs.length = n * size)
    (hsrc : Lies w sp cs) (h1 : ∀ v ∈ cs, v.oneCell' = true) :
    (Builtin.copy_ #[dT, sT] ty #[.slice (some ⟨g, 0, none⟩) n dCap, .slice sp n sCap]).run P w = .ok (goInt n) (w.setRow g cs.toArray) := by
  cases hq : P.info? elem with
  | none => simp [hq] at hs
  | some i =>
    have hi : i.size = size := by simpa [hq] using hs
    cases n with
    | zero =>
      have hcs : cs = [] := List.eq_nil_of_length_eq_zero (by omega)
      have hce : cur = #[] := Array.eq_empty_of_size_eq_zero (by omega)
      subst hcs; subst hce
      have hl : ∀ (x : Addr), (loadCells x 0).run P w = .ok #[] w := fun x => by simpa using run_loadCells_list (P := P) w x [] (by simp)
      have hself := setRow_self w g #[] t (0, 0) hg
      cases sp <;> simp [Builtin.copy_, run_underlying hu, Builtin.lenOf, Builtin.firstCells, sizeOf, typeInfo, hq, storeCells, hl, hself]
    | succ n =>
      have hpos : 0 < cs.length := by rw [hc]; exact Nat.mul_pos (by omega) hsz
      obtain ⟨b, off, rfl, _⟩ := hsrc 0 cs[0] (List.getElem?_eq_getElem hpos)
      have hsrc' : ∀ j v, cs[j]? = some v → w.cell? ((⟨b, off, none⟩ : Addr).add j) = some v := by
        intro j v hj
        obtain ⟨b', off', e, hv⟩ := hsrc j v hj
        injection e with e; injection e with e1 e2; subst e1; subst e2
        rw [add_plain]; exact hv
      have hl := run_loadCells_list (P := P) w ⟨b, off, none⟩ cs hsrc'
      have hst := run_storeCells_at P g 0 t cs 0 cur w hg (by simp; omega) h1
      have hd : cur.toList.drop (0 + 0 + cs.length) = [] := List.drop_eq_nil_of_le (by simp; omega)
      rw [hd] at hst
      simp only [Nat.add_zero, List.take_zero, List.nil_append, List.append_nil] at hst
      simp [Builtin.copy_, run_underlying hu, Builtin.lenOf, Builtin.firstCells, sizeOf, typeInfo, hq, hi, ← hc, hl, hst]

theorem setRow_new (w : World) (c cs : Array Value) (t : TypeId) : (w.alloc (.cells c t)).setRow w.heap.size cs = w.alloc (.cells cs t) := by
  unfold World.setRow World.alloc
  congr 1
  apply Array.ext
  · simp
  · intro k h1 h2
    simp only [Array.getElem_modify, Array.getElem_push]
    split
    · rename_i hk; subst hk; simp
    · split
      · rfl
      · rename_i h3 h4; simp at h1; omega

/-- 'copy' over a row that is new. -/
theorem run_copy_new {P : Program} (w : World) (dT sT ty elem : TypeId) (size dCap n : Nat) (sp : Option Addr) (sCap : Nat) (cur : Array Value) (t : TypeId) (cs : List Value)
    (hu : P.underlying dT = some (.slice elem)) (hs : (P.info? elem).map (·.size) = some size) (hsz : 0 < size) (hcur : cur.size = n * size) (hc : cs.length = n * size)
    (hsrc : Lies w sp cs) (h1 : ∀ v ∈ cs, v.oneCell' = true) :
    (Builtin.copy_ #[dT, sT] ty #[.slice (some ⟨w.heap.size, 0, none⟩) n dCap, .slice sp n sCap]).run P (w.alloc (.cells cur t)) = .ok (goInt n) (w.alloc (.cells cs.toArray t)) := by
  have hrun := run_copy_many (P := P) (w.alloc (.cells cur t)) dT sT ty elem size w.heap.size dCap n sp sCap cur t cs hu hs hsz (heap_alloc_new _ _) hcur hc (hsrc.below ((Below.refl _ _).alloc (Nat.le_refl _) _)) h1
  rw [setRow_new] at hrun
  exact hrun

/-- A row that is new. -/
theorem lies_new (w : World) (cs : List Value) (t : TypeId) : Lies (w.alloc (.cells cs.toArray t)) (some ⟨w.heap.size, 0, none⟩) cs := by
  intro k v hk
  exact ⟨_, _, rfl, by simp only [World.cell?, heap_alloc_new]; simpa using hk⟩
theorem below_new (w : World) (o : Obj) : Below w.heap.size w (w.alloc o) := (Below.refl _ _).alloc (Nat.le_refl _) _
theorem free_new (w : World) (c : Array Value) (t : TypeId) (o : Nat) : (w.alloc (.cells c t)).frozen? ⟨w.heap.size, o, none⟩ = false := by go_simp

/-- This place, of n cells, may be written: all are there, none is frozen. -/
structure Mine (w : World) (b off n : Nat) : Prop where
  all : ∀ j, j < n → ∃ v, w.cell? ⟨b, off + j, none⟩ = some v
  free : ∀ o, w.frozen? ⟨b, o, none⟩ = false
/-- The first k cells of that place hold xs's; all other blocks are as they were. -/
structure Wrote (w : World) (b off n : Nat) (xs : List Value) (k : Nat) (w' : World) : Prop where
  grown : w.grownBy w' (some b)
  mine : Mine w' b off n
  full : ∀ j v, j < k → xs[j]? = some v → w'.cell? ⟨b, off + j, none⟩ = some v
theorem Wrote.start {w : World} {b off n : Nat} (h : Mine w b off n) (xs : List Value) : Wrote w b off n xs 0 w := ⟨gid _ _, h, fun _ _ h => by omega⟩
theorem Mine.set {w : World} {b off n : Nat} (h : Mine w b off n) (o : Nat) (v : Value) : Mine (w.setCell ⟨b, o, none⟩ v) b off n where
  all := fun j hj => by
    obtain ⟨u, hu⟩ := h.all j hj
    by_cases e : off + j = o
    · subst e; exact ⟨v, by rw [World.cell?_setCell_same _ _ _ hu]⟩
    · exact ⟨u, by rw [World.cell?_setCell_other _ _ _ _ (by intro q; injection q with _ q; exact e (by omega))]; exact hu⟩
  free := fun o => by have := h.free o; go_simp
theorem Mine.below {w w' : World} {b off n : Nat} (h : Mine w b off n) (hb : b < w.heap.size) (k : Below w.heap.size w w') : Mine w' b off n where
  all := fun j hj => by obtain ⟨u, hu⟩ := h.all j hj; exact ⟨u, by rw [k.cell (p := ⟨b, off + j, none⟩) hb]; exact hu⟩
  free := fun o => by rw [k.frozen (p := ⟨b, o, none⟩) hb]; exact h.free o
theorem Mine.grown {w w' : World} {b off n : Nat} {row : Option Nat} (h : Mine w b off n) (hb : b < w.heap.size) (k : w.grownBy w' row) (hne : some b ≠ row) : Mine w' b off n where
  all := fun j hj => by obtain ⟨u, hu⟩ := h.all j hj; exact ⟨u, by rw [grown_keeps k hb hne]; exact hu⟩
  free := fun o => by rw [World.frozen?_of_block (k.block b hb hne)]; exact h.free o
theorem Wrote.set {w w' : World} {b off n k : Nat} {xs : List Value} {v : Value} (h : Wrote w b off n xs k w') (hk : k < n) (hv : xs[k]? = some v) : Wrote w b off n xs (k + 1) (w'.setCell ⟨b, off + k, none⟩ v) where
  grown := gset h.grown v
  mine := h.mine.set _ _
  full := fun j u hj hu => by
    by_cases e : j = k
    · subst e
      obtain ⟨x, hx⟩ := h.mine.all j hk
      rw [hv] at hu
      injection hu with hu
      subst hu
      rw [World.cell?_setCell_same _ _ _ hx]
    · rw [World.cell?_setCell_other _ _ _ _ (by intro q; injection q with _ q; exact e (by omega))]
      exact h.full j u (by omega) hu
theorem Wrote.put {w w' : World} {b off n k p q : Nat} {xs : List Value} {v : Value} (h : Wrote w b off n xs k w') (hk : k < n) (hv : xs[k]? = some v) (hp : p = off + k) (hq : q = k + 1) : Wrote w b off n xs q (w'.setCell ⟨b, p, none⟩ v) := by
  subst hp; subst hq; exact h.set hk hv
theorem Wrote.below {w w' w2 : World} {b off n k : Nat} {xs : List Value} (h : Wrote w b off n xs k w') (hb : b < w.heap.size) (q : Below w'.heap.size w' w2) : Wrote w b off n xs k w2 :=
  ⟨gbelow h.grown q, h.mine.below (Nat.lt_of_lt_of_le hb h.grown.size) q, fun j v hj hv => by rw [q.cell (p := ⟨b, off + j, none⟩) (Nat.lt_of_lt_of_le hb h.grown.size)]; exact h.full j v hj hv⟩
theorem Wrote.lies {w w' : World} {b off n : Nat} {xs : List Value} (h : Wrote w b off n xs n w') (hn : xs.length ≤ n) : Lies w' (some ⟨b, off, none⟩) xs := by
  intro k v hk
  have hlt : k < xs.length := (List.getElem?_eq_some_iff.1 hk).1
  exact ⟨_, _, rfl, h.full k v (by omega) hk⟩
end Go.Proofs.YtncandoohlndnaaGreat
namespace Go.Proofs.YtncandoohlndnaaGreat
open Go.ChangeShapes Go.WideShapes Go.ChangeAt Go.RowKit

section
variable {α : Type} {f : α → List Value} {c : Nat}

/-- These records lie one behind the other from a on. -/
def Recs (f : α → List Value) (w : World) (a : Option Addr) (xs : List α) : Prop := Lies w a (xs.flatMap f)

theorem flat_length (hc : ∀ x, (f x).length = c) : ∀ xs : List α, (xs.flatMap f).length = xs.length * c
  | [] => by simp
  | x :: r => by
    rw [List.flatMap_cons, List.length_append, hc x, flat_length hc r, List.length_cons, Nat.add_mul, Nat.one_mul, Nat.add_comm]
theorem flat_at (hc : ∀ x, (f x).length = c) : ∀ (xs : List α) (k j : Nat) (hk : k < xs.length), j < c → (xs.flatMap f)[k * c + j]? = (f xs[k])[j]?
  | x :: r, 0, j, _, hj => by
    rw [List.flatMap_cons, Nat.zero_mul, Nat.zero_add, List.getElem?_append_left (by rw [hc]; exact hj)]; rfl
  | x :: r, k + 1, j, hk, hj => by
    have := flat_at hc r k j (by simpa using hk) hj
    rw [List.flatMap_cons, Nat.add_mul, Nat.one_mul, List.getElem?_append_right (by rw [hc]; omega), hc, show k * c + c + j - c = k * c + j by omega, this]; rfl
theorem flat_cases (hc : ∀ x, (f x).length = c) {xs : List α} {i : Nat} {v : Value} (h : (xs.flatMap f)[i]? = some v) : ∃ k j, ∃ hk : k < xs.length, j < c ∧ i = k * c + j ∧ (f xs[k])[j]? = some v := by
  have hlt := (List.getElem?_eq_some_iff.1 h).1
  rw [flat_length hc] at hlt
  have hc0 : 0 < c := by
    rcases Nat.eq_zero_or_pos c with e | e
    · subst e; simp at hlt
    · exact e
  have hk : i / c < xs.length := Nat.div_lt_of_lt_mul (by rw [Nat.mul_comm]; exact hlt)
  have hj : i % c < c := Nat.mod_lt _ hc0
  have he : i = i / c * c + i % c := by rw [Nat.mul_comm]; exact (Nat.div_add_mod i c).symm
  refine ⟨i / c, i % c, hk, hj, he, ?_⟩
  rw [← flat_at hc xs _ _ hk hj, ← he]; exact h
theorem flat_take (hc : ∀ x, (f x).length = c) : ∀ (xs : List α) (n : Nat), (xs.take n).flatMap f = (xs.flatMap f).take (n * c)
  | [], n => by simp
  | x :: r, 0 => by simp
  | x :: r, n + 1 => by
    rw [List.take_succ_cons, List.flatMap_cons, List.flatMap_cons, flat_take hc r n, Nat.add_mul, Nat.one_mul, Nat.add_comm (n * c) c, ← hc x, List.take_length_add_append]
theorem flat_drop (hc : ∀ x, (f x).length = c) : ∀ (xs : List α) (n : Nat), (xs.drop n).flatMap f = (xs.flatMap f).drop (n * c)
  | [], n => by simp
  | x :: r, 0 => by simp
  | x :: r, n + 1 => by
    rw [List.drop_succ_cons, List.flatMap_cons, flat_drop hc r n, Nat.add_mul, Nat.one_mul, Nat.add_comm (n * c) c, ← List.drop_drop, List.drop_left' (hc x)]
theorem flat_one (h1 : ∀ x, ∀ v ∈ f x, v.oneCell' = true) (xs : List α) : ∀ v ∈ xs.flatMap f, v.oneCell' = true := by
  intro v hv
  obtain ⟨x, _, hx⟩ := List.mem_flatMap.1 hv
  exact h1 x v hx

theorem Recs.nil (w : World) (a : Option Addr) : Recs f w a [] := Lies.nil _ _
theorem Recs.below {w w' : World} {a : Option Addr} {xs : List α} (h : Recs f w a xs) (hb : Below w.heap.size w w') : Recs f w' a xs := Lies.below h hb
theorem Recs.takeR (hc : ∀ x, (f x).length = c) {w : World} {a : Option Addr} {xs : List α} (h : Recs f w a xs) (n : Nat) : Recs f w a (xs.take n) := by
  intro k v hk
  rw [flat_take hc, List.getElem?_take] at hk
  split at hk
  · exact h k v hk
  · cases hk
theorem Recs.draws {w : World} {a : Option Addr} {xs : List α} (h : Recs f w a xs) (n : Nat) : Recs f (w.drewN n) a xs := h
theorem Recs.cell {w : World} {a : Option Addr} {xs : List α} (h : Recs f w a xs) (hc : ∀ x, (f x).length = c) (h0 : 0 < c) (k : Nat) (hk : k < xs.length) :
    ∃ b off, a = some ⟨b, off, none⟩ ∧ b < w.heap.size ∧ ∀ j v, (f xs[k])[j]? = some v → w.cell? ⟨b, off + k * c + j, none⟩ = some v := by
  have hl : 0 < (f xs[k]).length := by rw [hc]; exact h0
  obtain ⟨b, off, e, hc0⟩ := h (k * c + 0) ((f xs[k])[0]) (by rw [flat_at hc xs k 0 hk h0]; exact List.getElem?_eq_getElem hl)
  refine ⟨b, off, e, at_lt hc0, fun j v hj => ?_⟩
  have hjc : j < c := by have := (List.getElem?_eq_some_iff.1 hj).1; rwa [hc] at this
  obtain ⟨b', off', e', hv⟩ := h (k * c + j) v (by rw [flat_at hc xs k j hk hjc]; exact hj)
  rw [e] at e'; injection e' with e'; injection e' with e1 e2; subst e1; subst e2
  rw [Nat.add_assoc]; exact hv
theorem Recs.under {w w' : World} {B : Nat} {a : Option Addr} {xs : List α} (hc : ∀ x, (f x).length = c) (h : Recs f w a xs) (hb : Below B w w') (hB : ∀ b off, a = some ⟨b, off, none⟩ → 0 < xs.length → b < B) : Recs f w' a xs :=
  Lies.under h hb (fun b off e hl => hB b off e (by
    rw [flat_length hc] at hl
    rcases Nat.eq_zero_or_pos xs.length with e0 | e0
    · rw [e0, Nat.zero_mul] at hl; omega
    · exact e0))
theorem Recs.old {w : World} {a : Option Addr} {xs : List α} (hc : ∀ x, (f x).length = c) (h0 : 0 < c) (h : Recs f w a xs) : ∀ b off, a = some ⟨b, off, none⟩ → 0 < xs.length → b < w.heap.size :=
  fun b off e hl => Lies.old h b off e (by rw [flat_length hc]; exact Nat.mul_pos hl h0)
theorem Recs.mk {w : World} {b off : Nat} {xs : List α} (hc : ∀ x, (f x).length = c) (h : ∀ k (hk : k < xs.length) j v, (f xs[k])[j]? = some v → w.cell? ⟨b, off + (k * c + j), none⟩ = some v) : Recs f w (some ⟨b, off, none⟩) xs := by
  intro i v hi
  obtain ⟨k, j, hk, hj, rfl, hv⟩ := flat_cases hc hi
  exact ⟨b, off, rfl, h k hk j v hv⟩

/-- The bytes of the first k. -/
def totR (z : α → Nat) (xs : List α) (k : Nat) : Nat := ((xs.take k).map z).sum
theorem totR_zero (z : α → Nat) (xs : List α) : totR z xs 0 = 0 := by simp [totR]
theorem totR_succ {z : α → Nat} {xs : List α} {k : Nat} (h : k < xs.length) : totR z xs (k + 1) = totR z xs k + z xs[k] := by
  unfold totR
  rw [List.take_succ_eq_append_getElem h, List.map_append, List.sum_append]
  simp only [List.map_cons, List.map_nil, List.sum_cons, List.sum_nil, Nat.add_zero]
theorem totR_mono (z : α → Nat) (xs : List α) {j k : Nat} (h : j ≤ k) : totR z xs j ≤ totR z xs k := by
  induction k with
  | zero => have : j = 0 := by omega
            subst this; exact Nat.le_refl _
  | succ k ih =>
    by_cases e : j = k + 1
    · subst e; exact Nat.le_refl _
    · have h1 := ih (by omega)
      by_cases hk : k < xs.length
      · rw [totR_succ hk]; omega
      · have : totR z xs (k + 1) = totR z xs k := by unfold totR; rw [List.take_of_length_le (by omega), List.take_of_length_le (by omega)]
        omega
theorem le_totR {z : α → Nat} {xs : List α} {k : Nat} (h : k < xs.length) : z xs[k] ≤ totR z xs xs.length := by
  have h1 := totR_succ (z := z) h
  have h2 := totR_mono z xs (show k + 1 ≤ xs.length by omega)
  omega
/-- What is left of so many: -1 where they are too many. -/
def szR (z : α → Nat) (xs : List α) (left : Int) : Int := if (xs.length : Int) + totR z xs xs.length ≤ left then left - xs.length - totR z xs xs.length else -1
theorem szR_no {z : α → Nat} {xs : List α} {left : Int} {k : Nat} (hk : k ≤ xs.length) (h : left < xs.length + totR z xs k) : szR z xs left = -1 := by
  have := totR_mono z xs hk
  unfold szR; rw [if_neg (by omega)]
theorem szR_yes {z : α → Nat} {xs : List α} {left : Int} (h : (xs.length : Int) + totR z xs xs.length ≤ left) : szR z xs left = left - xs.length - totR z xs xs.length := by
  unfold szR; rw [if_pos h]
theorem szR_small {z : α → Nat} {xs : List α} {left : Int} (hl : left ≤ 1048576) (h : ¬ szR z xs left < 0) : xs.length ≤ 1048576 ∧ ∀ x ∈ xs, z x ≤ 1048576 := by
  unfold szR at h
  split at h
  · rename_i hle
    refine ⟨by omega, fun x hx => ?_⟩
    obtain ⟨k, hk, rfl⟩ := List.getElem_of_mem hx
    have := le_totR (z := z) hk
    omega
  · omega
theorem szR_bd {z : α → Nat} {xs : List α} {left : Int} (h0 : 0 ≤ left) : -1 ≤ szR z xs left ∧ szR z xs left ≤ left := by
  unfold szR
  split <;> omega

/-- Marks, from k on, c of them a record. -/
def marksR (mk : Nat → α) (c k n : Nat) : List α := (List.range n).map fun i => mk (k + i * c)
theorem marksR_length (mk : Nat → α) (c k n : Nat) : (marksR mk c k n).length = n := by simp [marksR]
theorem marksR_at (mk : Nat → α) (c k n i : Nat) (h : i < n) : (marksR mk c k n)[i]'(by rw [marksR_length]; exact h) = mk (k + i * c) := by simp [marksR]

/-- A list that lies in a block of its own, from block B on, and may be written. -/
def OwnR (f : α → List Value) (c : Nat) (w : World) (B : Nat) (a : Option Addr) (xs : List α) : Prop :=
  Recs f w a xs ∧ (xs = [] ∨ ∃ b, a = some ⟨b, 0, none⟩ ∧ B ≤ b ∧ b < w.heap.size ∧ Mine w b 0 (xs.length * c))
theorem OwnR.below {w w' : World} {B : Nat} {a : Option Addr} {xs : List α} (h : OwnR f c w B a xs) (hb : Below w.heap.size w w') : OwnR f c w' B a xs := by
  refine ⟨h.1.below hb, ?_⟩
  rcases h.2 with h0 | ⟨b, e, h1, h2, hm⟩
  · exact .inl h0
  · exact .inr ⟨b, e, h1, Nat.lt_of_lt_of_le h2 hb.size, hm.below h2 hb⟩
theorem OwnR.grown {w w' : World} {B x : Nat} {a : Option Addr} {xs : List α} (h : OwnR f c w B a xs) (hg : w.grownBy w' (some x)) (hx : x < B) : OwnR f c w' B a xs := by
  rcases h.2 with rfl | ⟨b, rfl, h1, h2, hm⟩
  · exact ⟨Lies.nil _ _, .inl rfl⟩
  · have hne : some b ≠ some x := by intro e; injection e with e; omega
    refine ⟨?_, .inr ⟨b, rfl, h1, Nat.lt_of_lt_of_le h2 hg.size, hm.grown h2 hg hne⟩⟩
    intro k v hk
    obtain ⟨b', off, e, hc⟩ := h.1 k v hk
    injection e with e; injection e with e1 e2; subst e1; subst e2
    exact ⟨b, 0, rfl, by rw [grown_keeps hg h2 hne]; exact hc⟩
theorem OwnR.mono {w : World} {B B' : Nat} {a : Option Addr} {xs : List α} (h : OwnR f c w B a xs) (hB : B' ≤ B) : OwnR f c w B' a xs := by
  refine ⟨h.1, ?_⟩
  rcases h.2 with h0 | ⟨b, e, h1, h2, hm⟩
  · exact .inl h0
  · exact .inr ⟨b, e, by omega, h2, hm⟩
theorem mine_lies {w : World} {b n : Nat} {vs : List Value} (h : Lies w (some ⟨b, 0, none⟩) vs) (hn : vs.length = n) (hf : ∀ o, w.frozen? ⟨b, o, none⟩ = false) : Mine w b 0 n where
  all := fun j hj => by
    obtain ⟨b', off', e, hc⟩ := h j vs[j] (List.getElem?_eq_getElem (by omega))
    injection e with e; injection e with e1 e2; subst e1; subst e2
    exact ⟨_, hc⟩
  free := hf
/-- A row that is new, and what lies in it. -/
theorem ownR_new (hc : ∀ x, (f x).length = c) (w : World) (xs : List α) (t : TypeId) : OwnR f c (w.alloc (.cells (xs.flatMap f).toArray t)) w.heap.size (some ⟨w.heap.size, 0, none⟩) xs := by
  have hl := lies_new w (xs.flatMap f) t
  exact ⟨hl, .inr ⟨_, rfl, Nat.le_refl _, by simp, mine_lies hl (flat_length hc xs) (free_new _ _ _)⟩⟩
/-- One that owns its row. -/
theorem ownR_of {w : World} {base : Nat} {e : TypeId} {v : Value} {xs : List α} (hc : ∀ x, (f x).length = c) (h : w.ownsRow base e c v xs.length (xs.flatMap f)) :
    ∃ a cap, v = .slice a xs.length cap ∧ OwnR f c w base a xs ∧ (v = .slice none 0 0 ∨ ∃ b, a = some ⟨b, 0, none⟩) := by
  rcases h.2 with ⟨rfl, h0⟩ | ⟨g, cap, cur, rfl, hg, hh, hle, hm, hs, ht⟩
  · have : xs = [] := List.eq_nil_of_length_eq_zero h0
    subst this
    exact ⟨none, 0, rfl, ⟨Lies.nil _ _, .inl rfl⟩, .inl rfl⟩
  · have hlies : Lies w (some ⟨g, 0, none⟩) (xs.flatMap f) := by
      intro k v hk
      have hlt := (List.getElem?_eq_some_iff.1 hk).1
      refine ⟨g, 0, rfl, ?_⟩
      rw [← ht, List.getElem?_take_of_lt (by rw [flat_length hc] at hlt; exact hlt)] at hk
      simpa [World.cell?, hh] using hk
    exact ⟨_, cap, rfl, ⟨hlies, .inr ⟨g, rfl, hg, (Array.getElem?_eq_some_iff.1 hh).1, mine_lies hlies (flat_length hc xs) (fun o => by simp [World.frozen?, hh])⟩⟩, .inr ⟨g, rfl⟩⟩
end

theorem own_at0 (n : Nat) : ∀ g, (Value.slice (some ⟨n, 0, none⟩) 0 0).ownBlock = some g → n ≤ g := by
  intro g hg
  have : n = g := by simpa [Value.ownBlock] using hg
  omega
theorem own_lo {w : World} {base : Nat} {e : TypeId} {c : Nat} {v : Value} {n : Nat} {xs : List Value} (h : w.ownsRow base e c v n xs) : ∀ g, v.ownBlock = some g → base ≤ g := by
  intro g hg
  rcases h.2 with ⟨rfl, _⟩ | ⟨g', cap, cur, rfl, hb, _⟩
  · simp [Value.ownBlock] at hg
  · have : g' = g := by simpa [Value.ownBlock] using hg
    omega
theorem own_below {w w' : World} {base : Nat} {e : TypeId} {c : Nat} {v : Value} {n : Nat} {xs : List Value} (h : w.ownsRow base e c v n xs) (hb : Below w.heap.size w w') : w'.ownsRow base e c v n xs := by
  refine ⟨h.1, ?_⟩
  rcases h.2 with h0 | ⟨g, cap, cur, hv, hg, hh, hr⟩
  · exact .inl h0
  · exact .inr ⟨g, cap, cur, hv, hg, by rw [hb.block g (Array.getElem?_eq_some_iff.1 hh).1]; exact hh, hr⟩

/-- One record lies in block B, from its head on. -/
def RecAt {α : Type} (f : α → List Value) (w : World) (B : Nat) (x : α) : Prop := ∀ j v, (f x)[j]? = some v → w.cell? ⟨B, j, none⟩ = some v
theorem RecAt.below {α : Type} {f : α → List Value} {w w' : World} {B : Nat} {x : α} (h : RecAt f w B x) (hb : Below w.heap.size w w') : RecAt f w' B x :=
  fun j v hj => by have hc := h j v hj; rw [hb.cell (p := ⟨B, j, none⟩) (at_lt hc)]; exact hc
theorem RecAt.new {α : Type} (f : α → List Value) (w : World) (x : α) (T : TypeId) : RecAt f (w.alloc (.cells (f x).toArray T)) w.heap.size x :=
  fun j v hj => by simp only [World.cell?, heap_alloc_new]; simpa using hj

/-- The number behind the last mark. -/
def markTo (c n : Nat) : Int := ((1 + n * c : Nat) : Int)
theorem markTo_pos (c n : Nat) : 0 ≤ markTo c n := by unfold markTo; omega
end Go.Proofs.YtncandoohlndnaaGreat
namespace Go.Proofs.YtncandoohlndnaaGreat
open Go.ChangeShapes Go.WideShapes Go.ChangeAt Go.RowKit

/-- The last digit of k. -/
def digB (k : Nat) : UInt8 := UInt8.ofNat (48 + k % 10)
/-- So many more digits of k ahead of what is there. -/
def digs : Nat → Nat → ByteArray → ByteArray
  | 0, _, s => s
  | f + 1, k, s => if k = 0 then s else digs f (k / 10) (⟨#[digB k]⟩ ++ s)
/-- The text of a mark. -/
def markB (k : Nat) : ByteArray := ⟨#[109]⟩ ++ digs 10 k ByteArray.empty

end Go.Proofs.YtncandoohlndnaaGreat
namespace Go.Proofs.YtncandoohlndnaaGreat
open Go.ChangeShapes Go.WideShapes Go.ChangeAt Go.RowKit

/-- A world in which all that was in w is as it was. -/
structure Grow (w : World) where
  to : World
  ok : Below w.heap.size w to
instance (w : World) : Nonempty (Grow w) := ⟨⟨w, Below.refl _ _⟩⟩
theorem Grow.cell {w : World} {b o : Nat} {v : Value} (h : w.cell? ⟨b, o, none⟩ = some v) : ∀ g : Grow w, g.to.cell? ⟨b, o, none⟩ = some v :=
  fun g => (g.ok.cell (p := ⟨b, o, none⟩) (at_lt h)).trans h
/-- The region's law. -/
theorem wp_region_grow {P : Program} {id : Nat} {Q : Exit → Act → World → Prop} {a : Act} {w : World} {l : List Oper} (hm : P.follows .mixedOrders = true) (hB : Region.lexB .any l.toArray = true)
    (h : wpQuiet P l.toArray (fun w' => ∃ g : Grow w, w' = g.to) (fun a' => ∀ w', (∃ g : Grow w, w' = g.to) → Q .normal a' w') l a) : (Code.region id l.toArray true).wp P Q a w :=
  wp_region_quiet (C := fun w' => ∃ g : Grow w, w' = g.to) hm hB ⟨⟨{ w with drawn := w.drawn + 1 }, below_draws (Below.refl _ _) 1⟩, rfl⟩ (by simpa using h)
/-- A callee that makes memory. -/
theorem grow_call {P : Program} {f : FuncId} {args : Array Value} {w : World} {g : Grow w} {v u : Value} (e : u = v) (h : Calls P f args g.to fun e w' => e = .returned u ∧ Below g.to.heap.size g.to w') :
    Calls P f args g.to fun e w'' => e = .returned v ∧ ∃ g' : Grow w, w'' = g'.to :=
  h.mono fun _ w' ⟨he, hb⟩ => ⟨by rw [he, e], ⟨w', below_trans g.ok hb⟩, rfl⟩
/-- A callee that leaves the world alone. -/
theorem grow_same {P : Program} {f : FuncId} {args : Array Value} {w : World} {g : Grow w} {v u : Value} (e : u = v) (h : Calls P f args g.to fun e w' => e = .returned u ∧ g.to = w') :
    Calls P f args g.to fun e w'' => e = .returned v ∧ ∃ g' : Grow w, w'' = g'.to :=
  h.mono fun _ w' ⟨he, hb⟩ => ⟨by rw [he, e], g, hb.symm⟩
theorem int_is {a b : Int} (h : a = b) : Value.int .i64 a = .int .i64 b := by rw [h]
theorem bool_is {a b : Bool} (h : a = b) : Value.bool a = .bool b := by rw [h]
end Go.Proofs.YtncandoohlndnaaGreat
namespace Go.Proofs.YtncandoohlndnaaGreat
open Go.ChangeShapes Go.WideShapes Go.ChangeAt Go.RowKit

/-- A Mill. -/
structure Mil where
  name : ByteArray
  stake : Int
  shares : Int
  cut : Int
  shut : Bool
def Mil.cs (x : Mil) : List Value := [.string x.name, .int .i64 x.stake, .int .i64 x.shares, .int .i64 x.cut, .bool x.shut]
theorem Mil.len (x : Mil) : x.cs.length = 5 := rfl
theorem Mil.one (x : Mil) : ∀ v ∈ x.cs, v.oneCell' = true := by
  intro v hv
  simp only [Mil.cs, List.mem_cons, List.not_mem_nil, or_false] at hv
  rcases hv with rfl | rfl | rfl | rfl | rfl <;> rfl
/-- The bytes of its strings. -/
def Mil.bytes (x : Mil) : Nat := x.name.size
/-- Its strings are no longer than a machine's. -/
def Mil.fits (x : Mil) : Prop := x.name.size ≤ 9223372036854775807
theorem Mil.at {w : World} {a : Option Addr} {xs : List Mil} (h : Recs Mil.cs w a xs) (k : Nat) (hk : k < xs.length) :
    ∃ b off, a = some ⟨b, off, none⟩ ∧ b < w.heap.size ∧ w.cell? ⟨b, off + k * 5, none⟩ = some (.string xs[k].name) ∧ w.cell? ⟨b, off + k * 5 + 1, none⟩ = some (.int .i64 xs[k].stake) ∧ w.cell? ⟨b, off + k * 5 + 2, none⟩ = some (.int .i64 xs[k].shares) ∧ w.cell? ⟨b, off + k * 5 + 3, none⟩ = some (.int .i64 xs[k].cut) ∧ w.cell? ⟨b, off + k * 5 + 4, none⟩ = some (.bool xs[k].shut) := by
  obtain ⟨b, off, e, hb, hc⟩ := h.cell Mil.len (by omega) k hk
  exact ⟨b, off, e, hb, hc 0 _ rfl, hc 1 _ rfl, hc 2 _ rfl, hc 3 _ rfl, hc 4 _ rfl⟩

theorem info_Mill : (Tryz.prog.info? 81).map (fun i => (i.zero, i.size, i.bytes)) = some (some (.agg #[.string ByteArray.empty, .int .i64 0, .int .i64 0, .int .i64 0, .bool false]), 5, 48) := by kernel_rfl

theorem size_Mill : (Tryz.prog.info? 81).map (·.size) = some 5 := by kernel_rfl

/-- What is left behind one: -1 where it is too much. -/
def Mil.left (x : Mil) (left : Int) : Int := if (x.bytes : Int) ≤ left then left - x.bytes else -1

set_option maxHeartbeats 1000000 in
set_option maxRecDepth 100000 in
theorem szMill_any (v0 : ByteArray) (v1 : Int) (v2 : Int) (v3 : Int) (v4 : Bool) (left : Int) (w : World) (h0 : v0.size ≤ 9223372036854775807) (ha : 0 ≤ left) (hb : left ≤ 1048576) :
    Calls Tryz.prog 30 #[.agg #[.string v0, .int .i64 v1, .int .i64 v2, .int .i64 v3, .bool v4], .int .i64 left] w fun e w' => e = .returned (.int .i64 (Mil.left ⟨v0, v1, v2, v3, v4⟩ left)) ∧ Below w.heap.size w w' := by
  by_cases q0 : left < v0.size
  · have HN := Lib.hid (show Mil.left ⟨v0, v1, v2, v3, v4⟩ left = -1 by have hby : (⟨v0, v1, v2, v3, v4⟩ : Mil).bytes = v0.size := rfl; unfold Mil.left; rw [if_neg (by omega)])
    have hd : left - (v0.size : Int) < 0 := by omega
    go_enter Tryz.func30, Tryz.ntmps30
    go_wp2
    go_ret
    exact ⟨by rw [HN.out]; rfl, below_new _ _⟩
  have hd0 : ¬ left - (v0.size : Int) < 0 := by omega
  have HN := Lib.hid (show Mil.left ⟨v0, v1, v2, v3, v4⟩ left = left - (v0.size : Int) by have hby : (⟨v0, v1, v2, v3, v4⟩ : Mil).bytes = v0.size := rfl; unfold Mil.left; rw [if_pos (by omega)]; omega)
  go_enter Tryz.func30, Tryz.ntmps30
  go_wp2
  go_ret
  exact ⟨by rw [HN.out]; rfl, below_new _ _⟩

set_option maxHeartbeats 1000000 in
set_option maxRecDepth 100000 in
theorem szMillS_any {w : World} {a : Option Addr} {xs : List Mil} (cap : Nat) (left : Int) (h : Recs Mil.cs w a xs) (hl : (xs.length : Int) ≤ 9223372036854775807) (hs : ∀ x ∈ xs, x.fits) (h0 : 0 ≤ left) (h1 : left ≤ 1048576) :
    Calls Tryz.prog 10 #[.slice a xs.length cap, .int .i64 left] w fun e w' => e = .returned (.int .i64 (szR Mil.bytes xs left)) ∧ Below w.heap.size w w' := by
  have H := Lib.hid h
  have HS := Lib.hid hs
  clear h hs
  by_cases hz : left < xs.length
  · have hn := Lib.hid (szR_no (z := Mil.bytes) (xs := xs) (left := left) (k := 0) (Nat.zero_le _) (by omega))
    have hd : left - (xs.length : Int) < 0 := by omega
    go_enter Tryz.func10, Tryz.ntmps10
    go_wp2
    go_ret
    exact ⟨by rw [hn.out]; rfl, Below.refl _ _⟩
  · have hd : ¬ left - (xs.length : Int) < 0 := by omega
    go_enter Tryz.func10, Tryz.ntmps10
    go_wp2
    go_loopw [1, 5] (fun t i w' => ∃ k : Nat, k ≤ xs.length ∧ i = .int .i64 k ∧ t = .int .i64 (left - xs.length - totR Mil.bytes xs k) ∧ (totR Mil.bytes xs k : Int) ≤ left - xs.length ∧ Below w.heap.size w w') (fun _ i _ => xs.length - (intOf i).toNat)
    case atStart => exact ⟨0, Nat.zero_le _, rfl, by rw [totR_zero]; go_num, by rw [totR_zero]; omega, Below.refl _ _⟩
    case round =>
      obtain ⟨k, hk, rfl, rfl, ht, hb⟩ := hrel
      have HB := Lib.hid hb
      clear hb
      by_cases hlt : k < xs.length
      · obtain ⟨b, off, rfl, _, hc0, hc1, hc2, hc3, hc4⟩ := Mil.at (H.out.below HB.out) k hlt
        obtain hz0 : xs[k].name.size ≤ 9223372036854775807 := HS.out xs[k] (List.getElem_mem hlt)
        have hsu := Lib.hid (totR_succ (z := Mil.bytes) hlt)
        have HLE : Hid (Mil.left xs[k] (left - xs.length - totR Mil.bytes xs k) = if (xs[k].bytes : Int) ≤ left - xs.length - totR Mil.bytes xs k then left - xs.length - totR Mil.bytes xs k - xs[k].bytes else -1) := rfl
        by_cases hz : left - xs.length - totR Mil.bytes xs k < xs[k].bytes
        · have hn := Lib.hid (szR_no (z := Mil.bytes) (xs := xs) (left := left) (k := k + 1) (by omega) (by rw [hsu.out]; omega))
          have HL2 := Lib.hid (HLE.out.trans (if_neg (by omega)))
          clear HLE
          go_wp2_with fail
          refine (szMill_any _ _ _ _ _ _ _ hz0 (by omega) (by omega)).mono ?_
          rintro e w2 ⟨rfl, hb2⟩
          have HB2 := Lib.hid (below_trans HB.out hb2)
          clear hb2
          rw [show Mil.left ⟨xs[k].name, xs[k].stake, xs[k].shares, xs[k].cut, xs[k].shut⟩ (left - xs.length - totR Mil.bytes xs k) = -1 from HL2.out]
          go_wp2
          go_ret
          exact ⟨by rw [hn.out]; rfl, HB2.out⟩
        · have HL2 := Lib.hid (HLE.out.trans (if_pos (by omega)))
          clear HLE
          have hd : ¬ left - (xs.length : Int) - (totR Mil.bytes xs k : Int) - (xs[k].bytes : Int) < 0 := by omega
          go_wp2_with fail
          refine (szMill_any _ _ _ _ _ _ _ hz0 (by omega) (by omega)).mono ?_
          rintro e w2 ⟨rfl, hb2⟩
          have HB2 := Lib.hid (below_trans HB.out hb2)
          clear hb2
          rw [show Mil.left ⟨xs[k].name, xs[k].stake, xs[k].shares, xs[k].cut, xs[k].shut⟩ (left - xs.length - totR Mil.bytes xs k) = left - xs.length - totR Mil.bytes xs k - xs[k].bytes from HL2.out]
          go_wp2
          go_roundw
          case rel => exact ⟨k + 1, by omega, by go_num, by rw [hsu.out]; go_num, by rw [hsu.out]; omega, HB2.out⟩
          case measure => simp [intOf]; omega
      · obtain rfl : k = xs.length := by omega
        have hn := Lib.hid (szR_yes (z := Mil.bytes) (xs := xs) (left := left) (by omega))
        go_wp2
        go_ret
        exact ⟨by rw [hn.out]; rfl, HB.out⟩

set_option maxHeartbeats 1000000 in
set_option maxRecDepth 100000 in
theorem toMill_any (v0 : ByteArray) (v1 : Int) (v2 : Int) (v3 : Int) (v4 : Bool) (w : World) :
    Calls Tryz.prog 37 #[.agg #[.string v0, .int .i64 v1, .int .i64 v2, .int .i64 v3, .bool v4]] w fun e w' => e = .returned (.agg #[.string v0, .int .i64 v1, .int .i64 v2, .int .i64 v3, .bool v4]) ∧ Below w.heap.size w w' := by
  go_enter Tryz.func37, Tryz.ntmps37
  go_wp2
  refine bodyPost_ret (v := .agg #[.string v0, .int .i64 v1, .int .i64 v2, .int .i64 v3, .bool v4]) (by simp [results, Tryz.results37, go_sem]) rfl ⟨rfl, ?_⟩
  exact (((Below.refl _ _).alloc (Nat.le_refl _) _).alloc (by simp) _).alloc (by simp; omega) _

/-- What 'toMillS' leaves: the same records, in the block behind all that was there. -/
def ToMill (xs : List Mil) (w : World) (e : Ending) (w' : World) : Prop :=
  e = .returned (.slice (some ⟨w.heap.size, 0, none⟩) xs.length xs.length) ∧ Recs Mil.cs w' (some ⟨w.heap.size, 0, none⟩) xs ∧ Below w.heap.size w w' ∧ Mine w' w.heap.size 0 (xs.length * 5) ∧ w.heap.size < w'.heap.size

theorem room_Mill {w w' : World} {n k : Nat} {xs : List Mil} (h : Room w n (xs.flatMap Mil.cs) (k * 5) w') (hk : k < xs.length) (hn : n = xs.length * 5) :
    Room w n (xs.flatMap Mil.cs) ((k + 1) * 5) (((((w'.setCell ⟨w.heap.size, k * 5, none⟩ (.string xs[k].name)).setCell ⟨w.heap.size, k * 5 + 1, none⟩ (.int .i64 xs[k].stake)).setCell ⟨w.heap.size, k * 5 + 2, none⟩ (.int .i64 xs[k].shares)).setCell ⟨w.heap.size, k * 5 + 3, none⟩ (.int .i64 xs[k].cut)).setCell ⟨w.heap.size, k * 5 + 4, none⟩ (.bool xs[k].shut)) := by
  rw [show (k + 1) * 5 = k * 5 + 1 + 1 + 1 + 1 + 1 by omega]
  exact (((((h.set (by omega) ((flat_at Mil.len xs k 0 hk (by omega)).trans rfl)).set (by omega) ((flat_at Mil.len xs k 1 hk (by omega)).trans rfl)).set (by omega) ((flat_at Mil.len xs k 2 hk (by omega)).trans rfl)).set (by omega) ((flat_at Mil.len xs k 3 hk (by omega)).trans rfl)).set (by omega) ((flat_at Mil.len xs k 4 hk (by omega)).trans rfl))

set_option maxHeartbeats 1000000 in
set_option maxRecDepth 100000 in
theorem toMillS_any {w : World} {a : Option Addr} {xs : List Mil} (cap : Nat) (h : Recs Mil.cs w a xs) (hl : xs.length ≤ 1048576) :
    Calls Tryz.prog 16 #[.slice a xs.length cap] w (ToMill xs w) := by
  have H := Lib.hid h
  clear h
  have hmk := run_make_many (P := Tryz.prog) 31 81 (.agg #[.string ByteArray.empty, .int .i64 0, .int .i64 0, .int .i64 0, .bool false]) 5 48 Tryz.underlying31 info_Mill .i64 .i64 xs.length (by omega) (by omega)
  go_enter Tryz.func16, Tryz.ntmps16
  go_wp2
  clear hmk
  go_loopw [4] (fun i w' => ∃ k : Nat, k ≤ xs.length ∧ i = .int .i64 k ∧ Room w (xs.length * 5) (xs.flatMap Mil.cs) (k * 5) w') (fun i _ => xs.length - (intOf i).toNat)
  case atStart => exact ⟨0, Nat.zero_le _, rfl, Room.made _ _ _ _ _⟩
  case round =>
    obtain ⟨k, hk, rfl, hr⟩ := hrel
    by_cases hlt : k < xs.length
    · obtain ⟨b, off, rfl, hb, g0, g1, g2, g3, g4⟩ := Mil.at H.out k hlt
      have hc0 := (hr.low.cell (p := ⟨b, off + k * 5, none⟩) hb).trans g0
      have hc1 := (hr.low.cell (p := ⟨b, off + k * 5 + 1, none⟩) hb).trans g1
      have hc2 := (hr.low.cell (p := ⟨b, off + k * 5 + 2, none⟩) hb).trans g2
      have hc3 := (hr.low.cell (p := ⟨b, off + k * 5 + 3, none⟩) hb).trans g3
      have hc4 := (hr.low.cell (p := ⟨b, off + k * 5 + 4, none⟩) hb).trans g4
      have HR := Lib.hid hr
      clear hr g0 g1 g2 g3 g4
      go_wp2_with fail
      refine (toMill_any _ _ _ _ _ _).mono ?_
      rintro e w2 ⟨rfl, hb2⟩
      have hr2 := HR.out.below hb2
      obtain ⟨u0, hu0⟩ := hr2.all (k * 5) (by omega)
      have hf0 := hr2.free (k * 5)
      obtain ⟨u1, hu1⟩ := hr2.all (k * 5 + 1) (by omega)
      have hf1 := hr2.free (k * 5 + 1)
      obtain ⟨u2, hu2⟩ := hr2.all (k * 5 + 2) (by omega)
      have hf2 := hr2.free (k * 5 + 2)
      obtain ⟨u3, hu3⟩ := hr2.all (k * 5 + 3) (by omega)
      have hf3 := hr2.free (k * 5 + 3)
      obtain ⟨u4, hu4⟩ := hr2.all (k * 5 + 4) (by omega)
      have hf4 := hr2.free (k * 5 + 4)
      have HR2 := Lib.hid (room_Mill hr2 hlt rfl)
      clear hr2 hb2 HR
      go_wp2
      go_roundw
      case rel => exact ⟨k + 1, by omega, by go_num, HR2.out⟩
      case measure => simp [intOf]; omega
    · obtain rfl : k = xs.length := by omega
      have HR := Lib.hid hr
      clear hr
      go_wp2
      go_ret
      have hlies := HR.out.lies (by rw [flat_length Mil.len]; omega)
      exact ⟨rfl, hlies, HR.out.low, mine_lies hlies (flat_length Mil.len xs) HR.out.free, HR.out.has⟩

set_option maxHeartbeats 1000000 in
set_option maxRecDepth 100000 in
theorem eqMill_same (v0 : ByteArray) (v1 : Int) (v2 : Int) (v3 : Int) (v4 : Bool) (w : World) :
    Calls Tryz.prog 49 #[.agg #[.string v0, .int .i64 v1, .int .i64 v2, .int .i64 v3, .bool v4], .agg #[.string v0, .int .i64 v1, .int .i64 v2, .int .i64 v3, .bool v4]] w fun e w' => e = .returned (.bool true) ∧ Below w.heap.size w w' := by
  go_enter Tryz.func49, Tryz.ntmps49
  go_wp2
  go_ret
  exact ⟨rfl, ((Below.refl _ _).alloc (Nat.le_refl _) _).alloc (by simp) _⟩

set_option maxHeartbeats 1000000 in
set_option maxRecDepth 100000 in
/-- Both lists hold the same records: it says so. -/
theorem eqMillS_same {w : World} {a a' : Option Addr} {xs : List Mil} (cap cap' : Nat) (h : Recs Mil.cs w a xs) (h' : Recs Mil.cs w a' xs) (hl : xs.length ≤ 1048576) :
    Calls Tryz.prog 26 #[.slice a xs.length cap, .slice a' xs.length cap'] w fun e w' => e = .returned (.bool true) ∧ Below w.heap.size w w' := by
  have H := Lib.hid h
  have H' := Lib.hid h'
  clear h h'
  go_enter Tryz.func26, Tryz.ntmps26
  go_wp2
  go_loopw [5] (fun i w' => ∃ (k : Nat), k ≤ xs.length ∧ i = .int .i64 k ∧ Below w.heap.size w w') (fun i _ => xs.length - (intOf i).toNat)
  case atStart => exact ⟨0, Nat.zero_le _, rfl, Below.refl _ _⟩
  case round =>
    obtain ⟨k, hk, rfl, hb⟩ := hrel
    have HB := Lib.hid hb
    clear hb
    by_cases hlt : k < xs.length
    · obtain ⟨b, off, rfl, _, hc0, hc1, hc2, hc3, hc4⟩ := Mil.at (H.out.below HB.out) k hlt
      obtain ⟨b', off', rfl, _, hd0, hd1, hd2, hd3, hd4⟩ := Mil.at (H'.out.below HB.out) k hlt
      go_wp2
      go_still_tail 8, (by kernel_rfl)
      change wpList _ _ _ _ _ wr.drew
      go_wp2_with fail
      refine (eqMill_same _ _ _ _ _ _).mono ?_
      rintro e w2 ⟨rfl, hb2⟩
      have HB2 := Lib.hid (below_trans (show Below w.heap.size w wr.drew from below_draws HB.out 1) hb2)
      clear hb2
      go_wp2
      go_roundw
      case rel => exact ⟨k + 1, by omega, by go_num, HB2.out⟩
      case measure => simp [intOf]; omega
    · go_wp2
      go_ret
      exact ⟨rfl, HB.out⟩

/-- The record of marks from k on. -/
def Mil.mark (k : Nat) : Mil := ⟨markB (k), ((k + 1 : Nat) : Int), ((k + 2 : Nat) : Int), ((k + 3 : Nat) : Int), (((k + 4 : Nat) : Int) % 3 == 0)⟩

/-- What marks leave of a list of the call's own. -/
def MarkMill (w : World) (B : Nat) (a : Option Addr) (k n : Nat) (e : Ending) (w' : World) : Prop := e = .returned (.int .i64 ((k + n * 5 : Nat) : Int)) ∧ Recs Mil.cs w' a (marksR Mil.mark 5 k n) ∧ Below B w w'

end Go.Proofs.YtncandoohlndnaaGreat
namespace Go.Proofs.YtncandoohlndnaaGreat
open Go.ChangeShapes Go.WideShapes Go.ChangeAt Go.RowKit

/-- A Part. -/
structure Par where
  who : ByteArray
  mill : ByteArray
  shares : Int
def Par.cs (x : Par) : List Value := [.string x.who, .string x.mill, .int .i64 x.shares]
theorem Par.len (x : Par) : x.cs.length = 3 := rfl
theorem Par.one (x : Par) : ∀ v ∈ x.cs, v.oneCell' = true := by
  intro v hv
  simp only [Par.cs, List.mem_cons, List.not_mem_nil, or_false] at hv
  rcases hv with rfl | rfl | rfl <;> rfl
/-- The bytes of its strings. -/
def Par.bytes (x : Par) : Nat := x.who.size + x.mill.size
/-- Its strings are no longer than a machine's. -/
def Par.fits (x : Par) : Prop := x.who.size ≤ 9223372036854775807 ∧ x.mill.size ≤ 9223372036854775807
theorem Par.at {w : World} {a : Option Addr} {xs : List Par} (h : Recs Par.cs w a xs) (k : Nat) (hk : k < xs.length) :
    ∃ b off, a = some ⟨b, off, none⟩ ∧ b < w.heap.size ∧ w.cell? ⟨b, off + k * 3, none⟩ = some (.string xs[k].who) ∧ w.cell? ⟨b, off + k * 3 + 1, none⟩ = some (.string xs[k].mill) ∧ w.cell? ⟨b, off + k * 3 + 2, none⟩ = some (.int .i64 xs[k].shares) := by
  obtain ⟨b, off, e, hb, hc⟩ := h.cell Par.len (by omega) k hk
  exact ⟨b, off, e, hb, hc 0 _ rfl, hc 1 _ rfl, hc 2 _ rfl⟩

theorem info_Part : (Tryz.prog.info? 83).map (fun i => (i.zero, i.size, i.bytes)) = some (some (.agg #[.string ByteArray.empty, .string ByteArray.empty, .int .i64 0]), 3, 40) := by kernel_rfl

theorem size_Part : (Tryz.prog.info? 83).map (·.size) = some 3 := by kernel_rfl

/-- What is left behind one: -1 where it is too much. -/
def Par.left (x : Par) (left : Int) : Int := if (x.bytes : Int) ≤ left then left - x.bytes else -1

set_option maxHeartbeats 1000000 in
set_option maxRecDepth 100000 in
theorem szPart_any (v0 : ByteArray) (v1 : ByteArray) (v2 : Int) (left : Int) (w : World) (h0 : v0.size ≤ 9223372036854775807) (h1 : v1.size ≤ 9223372036854775807) (ha : 0 ≤ left) (hb : left ≤ 1048576) :
    Calls Tryz.prog 31 #[.agg #[.string v0, .string v1, .int .i64 v2], .int .i64 left] w fun e w' => e = .returned (.int .i64 (Par.left ⟨v0, v1, v2⟩ left)) ∧ Below w.heap.size w w' := by
  by_cases q0 : left < v0.size
  · have HN := Lib.hid (show Par.left ⟨v0, v1, v2⟩ left = -1 by have hby : (⟨v0, v1, v2⟩ : Par).bytes = v0.size + v1.size := rfl; unfold Par.left; rw [if_neg (by omega)])
    have hd : left - (v0.size : Int) < 0 := by omega
    go_enter Tryz.func31, Tryz.ntmps31
    go_wp2
    go_ret
    exact ⟨by rw [HN.out]; rfl, below_new _ _⟩
  have hd0 : ¬ left - (v0.size : Int) < 0 := by omega
  by_cases q1 : left - (v0.size : Int) < v1.size
  · have HN := Lib.hid (show Par.left ⟨v0, v1, v2⟩ left = -1 by have hby : (⟨v0, v1, v2⟩ : Par).bytes = v0.size + v1.size := rfl; unfold Par.left; rw [if_neg (by omega)])
    have hd : left - (v0.size : Int) - (v1.size : Int) < 0 := by omega
    go_enter Tryz.func31, Tryz.ntmps31
    go_wp2
    go_ret
    exact ⟨by rw [HN.out]; rfl, below_new _ _⟩
  have hd1 : ¬ left - (v0.size : Int) - (v1.size : Int) < 0 := by omega
  have HN := Lib.hid (show Par.left ⟨v0, v1, v2⟩ left = left - (v0.size : Int) - (v1.size : Int) by have hby : (⟨v0, v1, v2⟩ : Par).bytes = v0.size + v1.size := rfl; unfold Par.left; rw [if_pos (by omega)]; omega)
  go_enter Tryz.func31, Tryz.ntmps31
  go_wp2
  go_ret
  exact ⟨by rw [HN.out]; rfl, below_new _ _⟩

set_option maxHeartbeats 1000000 in
set_option maxRecDepth 100000 in
theorem szPartS_any {w : World} {a : Option Addr} {xs : List Par} (cap : Nat) (left : Int) (h : Recs Par.cs w a xs) (hl : (xs.length : Int) ≤ 9223372036854775807) (hs : ∀ x ∈ xs, x.fits) (h0 : 0 ≤ left) (h1 : left ≤ 1048576) :
    Calls Tryz.prog 11 #[.slice a xs.length cap, .int .i64 left] w fun e w' => e = .returned (.int .i64 (szR Par.bytes xs left)) ∧ Below w.heap.size w w' := by
  have H := Lib.hid h
  have HS := Lib.hid hs
  clear h hs
  by_cases hz : left < xs.length
  · have hn := Lib.hid (szR_no (z := Par.bytes) (xs := xs) (left := left) (k := 0) (Nat.zero_le _) (by omega))
    have hd : left - (xs.length : Int) < 0 := by omega
    go_enter Tryz.func11, Tryz.ntmps11
    go_wp2
    go_ret
    exact ⟨by rw [hn.out]; rfl, Below.refl _ _⟩
  · have hd : ¬ left - (xs.length : Int) < 0 := by omega
    go_enter Tryz.func11, Tryz.ntmps11
    go_wp2
    go_loopw [1, 5] (fun t i w' => ∃ k : Nat, k ≤ xs.length ∧ i = .int .i64 k ∧ t = .int .i64 (left - xs.length - totR Par.bytes xs k) ∧ (totR Par.bytes xs k : Int) ≤ left - xs.length ∧ Below w.heap.size w w') (fun _ i _ => xs.length - (intOf i).toNat)
    case atStart => exact ⟨0, Nat.zero_le _, rfl, by rw [totR_zero]; go_num, by rw [totR_zero]; omega, Below.refl _ _⟩
    case round =>
      obtain ⟨k, hk, rfl, rfl, ht, hb⟩ := hrel
      have HB := Lib.hid hb
      clear hb
      by_cases hlt : k < xs.length
      · obtain ⟨b, off, rfl, _, hc0, hc1, hc2⟩ := Par.at (H.out.below HB.out) k hlt
        obtain ⟨hz0, hz1⟩ : xs[k].who.size ≤ 9223372036854775807 ∧ xs[k].mill.size ≤ 9223372036854775807 := HS.out xs[k] (List.getElem_mem hlt)
        have hsu := Lib.hid (totR_succ (z := Par.bytes) hlt)
        have HLE : Hid (Par.left xs[k] (left - xs.length - totR Par.bytes xs k) = if (xs[k].bytes : Int) ≤ left - xs.length - totR Par.bytes xs k then left - xs.length - totR Par.bytes xs k - xs[k].bytes else -1) := rfl
        by_cases hz : left - xs.length - totR Par.bytes xs k < xs[k].bytes
        · have hn := Lib.hid (szR_no (z := Par.bytes) (xs := xs) (left := left) (k := k + 1) (by omega) (by rw [hsu.out]; omega))
          have HL2 := Lib.hid (HLE.out.trans (if_neg (by omega)))
          clear HLE
          go_wp2_with fail
          refine (szPart_any _ _ _ _ _ hz0 hz1 (by omega) (by omega)).mono ?_
          rintro e w2 ⟨rfl, hb2⟩
          have HB2 := Lib.hid (below_trans HB.out hb2)
          clear hb2
          rw [show Par.left ⟨xs[k].who, xs[k].mill, xs[k].shares⟩ (left - xs.length - totR Par.bytes xs k) = -1 from HL2.out]
          go_wp2
          go_ret
          exact ⟨by rw [hn.out]; rfl, HB2.out⟩
        · have HL2 := Lib.hid (HLE.out.trans (if_pos (by omega)))
          clear HLE
          have hd : ¬ left - (xs.length : Int) - (totR Par.bytes xs k : Int) - (xs[k].bytes : Int) < 0 := by omega
          go_wp2_with fail
          refine (szPart_any _ _ _ _ _ hz0 hz1 (by omega) (by omega)).mono ?_
          rintro e w2 ⟨rfl, hb2⟩
          have HB2 := Lib.hid (below_trans HB.out hb2)
          clear hb2
          rw [show Par.left ⟨xs[k].who, xs[k].mill, xs[k].shares⟩ (left - xs.length - totR Par.bytes xs k) = left - xs.length - totR Par.bytes xs k - xs[k].bytes from HL2.out]
          go_wp2
          go_roundw
          case rel => exact ⟨k + 1, by omega, by go_num, by rw [hsu.out]; go_num, by rw [hsu.out]; omega, HB2.out⟩
          case measure => simp [intOf]; omega
      · obtain rfl : k = xs.length := by omega
        have hn := Lib.hid (szR_yes (z := Par.bytes) (xs := xs) (left := left) (by omega))
        go_wp2
        go_ret
        exact ⟨by rw [hn.out]; rfl, HB.out⟩

set_option maxHeartbeats 1000000 in
set_option maxRecDepth 100000 in
theorem toPart_any (v0 : ByteArray) (v1 : ByteArray) (v2 : Int) (w : World) :
    Calls Tryz.prog 38 #[.agg #[.string v0, .string v1, .int .i64 v2]] w fun e w' => e = .returned (.agg #[.string v0, .string v1, .int .i64 v2]) ∧ Below w.heap.size w w' := by
  go_enter Tryz.func38, Tryz.ntmps38
  go_wp2
  refine bodyPost_ret (v := .agg #[.string v0, .string v1, .int .i64 v2]) (by simp [results, Tryz.results38, go_sem]) rfl ⟨rfl, ?_⟩
  exact (((Below.refl _ _).alloc (Nat.le_refl _) _).alloc (by simp) _).alloc (by simp; omega) _

/-- What 'toPartS' leaves: the same records, in the block behind all that was there. -/
def ToPart (xs : List Par) (w : World) (e : Ending) (w' : World) : Prop :=
  e = .returned (.slice (some ⟨w.heap.size, 0, none⟩) xs.length xs.length) ∧ Recs Par.cs w' (some ⟨w.heap.size, 0, none⟩) xs ∧ Below w.heap.size w w' ∧ Mine w' w.heap.size 0 (xs.length * 3) ∧ w.heap.size < w'.heap.size

theorem room_Part {w w' : World} {n k : Nat} {xs : List Par} (h : Room w n (xs.flatMap Par.cs) (k * 3) w') (hk : k < xs.length) (hn : n = xs.length * 3) :
    Room w n (xs.flatMap Par.cs) ((k + 1) * 3) (((w'.setCell ⟨w.heap.size, k * 3, none⟩ (.string xs[k].who)).setCell ⟨w.heap.size, k * 3 + 1, none⟩ (.string xs[k].mill)).setCell ⟨w.heap.size, k * 3 + 2, none⟩ (.int .i64 xs[k].shares)) := by
  rw [show (k + 1) * 3 = k * 3 + 1 + 1 + 1 by omega]
  exact (((h.set (by omega) ((flat_at Par.len xs k 0 hk (by omega)).trans rfl)).set (by omega) ((flat_at Par.len xs k 1 hk (by omega)).trans rfl)).set (by omega) ((flat_at Par.len xs k 2 hk (by omega)).trans rfl))

set_option maxHeartbeats 1000000 in
set_option maxRecDepth 100000 in
theorem toPartS_any {w : World} {a : Option Addr} {xs : List Par} (cap : Nat) (h : Recs Par.cs w a xs) (hl : xs.length ≤ 1048576) :
    Calls Tryz.prog 17 #[.slice a xs.length cap] w (ToPart xs w) := by
  have H := Lib.hid h
  clear h
  have hmk := run_make_many (P := Tryz.prog) 32 83 (.agg #[.string ByteArray.empty, .string ByteArray.empty, .int .i64 0]) 3 40 Tryz.underlying32 info_Part .i64 .i64 xs.length (by omega) (by omega)
  go_enter Tryz.func17, Tryz.ntmps17
  go_wp2
  clear hmk
  go_loopw [4] (fun i w' => ∃ k : Nat, k ≤ xs.length ∧ i = .int .i64 k ∧ Room w (xs.length * 3) (xs.flatMap Par.cs) (k * 3) w') (fun i _ => xs.length - (intOf i).toNat)
  case atStart => exact ⟨0, Nat.zero_le _, rfl, Room.made _ _ _ _ _⟩
  case round =>
    obtain ⟨k, hk, rfl, hr⟩ := hrel
    by_cases hlt : k < xs.length
    · obtain ⟨b, off, rfl, hb, g0, g1, g2⟩ := Par.at H.out k hlt
      have hc0 := (hr.low.cell (p := ⟨b, off + k * 3, none⟩) hb).trans g0
      have hc1 := (hr.low.cell (p := ⟨b, off + k * 3 + 1, none⟩) hb).trans g1
      have hc2 := (hr.low.cell (p := ⟨b, off + k * 3 + 2, none⟩) hb).trans g2
      have HR := Lib.hid hr
      clear hr g0 g1 g2
      go_wp2_with fail
      refine (toPart_any _ _ _ _).mono ?_
      rintro e w2 ⟨rfl, hb2⟩
      have hr2 := HR.out.below hb2
      obtain ⟨u0, hu0⟩ := hr2.all (k * 3) (by omega)
      have hf0 := hr2.free (k * 3)
      obtain ⟨u1, hu1⟩ := hr2.all (k * 3 + 1) (by omega)
      have hf1 := hr2.free (k * 3 + 1)
      obtain ⟨u2, hu2⟩ := hr2.all (k * 3 + 2) (by omega)
      have hf2 := hr2.free (k * 3 + 2)
      have HR2 := Lib.hid (room_Part hr2 hlt rfl)
      clear hr2 hb2 HR
      go_wp2
      go_roundw
      case rel => exact ⟨k + 1, by omega, by go_num, HR2.out⟩
      case measure => simp [intOf]; omega
    · obtain rfl : k = xs.length := by omega
      have HR := Lib.hid hr
      clear hr
      go_wp2
      go_ret
      have hlies := HR.out.lies (by rw [flat_length Par.len]; omega)
      exact ⟨rfl, hlies, HR.out.low, mine_lies hlies (flat_length Par.len xs) HR.out.free, HR.out.has⟩

set_option maxHeartbeats 1000000 in
set_option maxRecDepth 100000 in
theorem eqPart_same (v0 : ByteArray) (v1 : ByteArray) (v2 : Int) (w : World) :
    Calls Tryz.prog 50 #[.agg #[.string v0, .string v1, .int .i64 v2], .agg #[.string v0, .string v1, .int .i64 v2]] w fun e w' => e = .returned (.bool true) ∧ Below w.heap.size w w' := by
  go_enter Tryz.func50, Tryz.ntmps50
  go_wp2
  go_ret
  exact ⟨rfl, ((Below.refl _ _).alloc (Nat.le_refl _) _).alloc (by simp) _⟩

set_option maxHeartbeats 1000000 in
set_option maxRecDepth 100000 in
/-- Both lists hold the same records: it says so. -/
theorem eqPartS_same {w : World} {a a' : Option Addr} {xs : List Par} (cap cap' : Nat) (h : Recs Par.cs w a xs) (h' : Recs Par.cs w a' xs) (hl : xs.length ≤ 1048576) :
    Calls Tryz.prog 27 #[.slice a xs.length cap, .slice a' xs.length cap'] w fun e w' => e = .returned (.bool true) ∧ Below w.heap.size w w' := by
  have H := Lib.hid h
  have H' := Lib.hid h'
  clear h h'
  go_enter Tryz.func27, Tryz.ntmps27
  go_wp2
  go_loopw [5] (fun i w' => ∃ (k : Nat), k ≤ xs.length ∧ i = .int .i64 k ∧ Below w.heap.size w w') (fun i _ => xs.length - (intOf i).toNat)
  case atStart => exact ⟨0, Nat.zero_le _, rfl, Below.refl _ _⟩
  case round =>
    obtain ⟨k, hk, rfl, hb⟩ := hrel
    have HB := Lib.hid hb
    clear hb
    by_cases hlt : k < xs.length
    · obtain ⟨b, off, rfl, _, hc0, hc1, hc2⟩ := Par.at (H.out.below HB.out) k hlt
      obtain ⟨b', off', rfl, _, hd0, hd1, hd2⟩ := Par.at (H'.out.below HB.out) k hlt
      go_wp2
      go_still_tail 8, (by kernel_rfl)
      change wpList _ _ _ _ _ wr.drew
      go_wp2_with fail
      refine (eqPart_same _ _ _ _).mono ?_
      rintro e w2 ⟨rfl, hb2⟩
      have HB2 := Lib.hid (below_trans (show Below w.heap.size w wr.drew from below_draws HB.out 1) hb2)
      clear hb2
      go_wp2
      go_roundw
      case rel => exact ⟨k + 1, by omega, by go_num, HB2.out⟩
      case measure => simp [intOf]; omega
    · go_wp2
      go_ret
      exact ⟨rfl, HB.out⟩

/-- The record of marks from k on. -/
def Par.mark (k : Nat) : Par := ⟨markB (k), markB (k + 1), ((k + 2 : Nat) : Int)⟩

/-- What marks leave of a list of the call's own. -/
def MarkPart (w : World) (B : Nat) (a : Option Addr) (k n : Nat) (e : Ending) (w' : World) : Prop := e = .returned (.int .i64 ((k + n * 3 : Nat) : Int)) ∧ Recs Par.cs w' a (marksR Par.mark 3 k n) ∧ Below B w w'

end Go.Proofs.YtncandoohlndnaaGreat
namespace Go.Proofs.YtncandoohlndnaaGreat
open Go.ChangeShapes Go.WideShapes Go.ChangeAt Go.RowKit

/-- A Wait. -/
structure Wai where
  who : ByteArray
  mill : ByteArray
  amount : Int
  ripe : Int
def Wai.cs (x : Wai) : List Value := [.string x.who, .string x.mill, .int .i64 x.amount, .int .i64 x.ripe]
theorem Wai.len (x : Wai) : x.cs.length = 4 := rfl
theorem Wai.one (x : Wai) : ∀ v ∈ x.cs, v.oneCell' = true := by
  intro v hv
  simp only [Wai.cs, List.mem_cons, List.not_mem_nil, or_false] at hv
  rcases hv with rfl | rfl | rfl | rfl <;> rfl
/-- The bytes of its strings. -/
def Wai.bytes (x : Wai) : Nat := x.who.size + x.mill.size
/-- Its strings are no longer than a machine's. -/
def Wai.fits (x : Wai) : Prop := x.who.size ≤ 9223372036854775807 ∧ x.mill.size ≤ 9223372036854775807
theorem Wai.at {w : World} {a : Option Addr} {xs : List Wai} (h : Recs Wai.cs w a xs) (k : Nat) (hk : k < xs.length) :
    ∃ b off, a = some ⟨b, off, none⟩ ∧ b < w.heap.size ∧ w.cell? ⟨b, off + k * 4, none⟩ = some (.string xs[k].who) ∧ w.cell? ⟨b, off + k * 4 + 1, none⟩ = some (.string xs[k].mill) ∧ w.cell? ⟨b, off + k * 4 + 2, none⟩ = some (.int .i64 xs[k].amount) ∧ w.cell? ⟨b, off + k * 4 + 3, none⟩ = some (.int .i64 xs[k].ripe) := by
  obtain ⟨b, off, e, hb, hc⟩ := h.cell Wai.len (by omega) k hk
  exact ⟨b, off, e, hb, hc 0 _ rfl, hc 1 _ rfl, hc 2 _ rfl, hc 3 _ rfl⟩

theorem info_Wait : (Tryz.prog.info? 46).map (fun i => (i.zero, i.size, i.bytes)) = some (some (.agg #[.string ByteArray.empty, .string ByteArray.empty, .int .i64 0, .int .i64 0]), 4, 48) := by kernel_rfl

theorem size_Wait : (Tryz.prog.info? 46).map (·.size) = some 4 := by kernel_rfl

/-- What is left behind one: -1 where it is too much. -/
def Wai.left (x : Wai) (left : Int) : Int := if (x.bytes : Int) ≤ left then left - x.bytes else -1

set_option maxHeartbeats 1000000 in
set_option maxRecDepth 100000 in
theorem szWait_any (v0 : ByteArray) (v1 : ByteArray) (v2 : Int) (v3 : Int) (left : Int) (w : World) (h0 : v0.size ≤ 9223372036854775807) (h1 : v1.size ≤ 9223372036854775807) (ha : 0 ≤ left) (hb : left ≤ 1048576) :
    Calls Tryz.prog 32 #[.agg #[.string v0, .string v1, .int .i64 v2, .int .i64 v3], .int .i64 left] w fun e w' => e = .returned (.int .i64 (Wai.left ⟨v0, v1, v2, v3⟩ left)) ∧ Below w.heap.size w w' := by
  by_cases q0 : left < v0.size
  · have HN := Lib.hid (show Wai.left ⟨v0, v1, v2, v3⟩ left = -1 by have hby : (⟨v0, v1, v2, v3⟩ : Wai).bytes = v0.size + v1.size := rfl; unfold Wai.left; rw [if_neg (by omega)])
    have hd : left - (v0.size : Int) < 0 := by omega
    go_enter Tryz.func32, Tryz.ntmps32
    go_wp2
    go_ret
    exact ⟨by rw [HN.out]; rfl, below_new _ _⟩
  have hd0 : ¬ left - (v0.size : Int) < 0 := by omega
  by_cases q1 : left - (v0.size : Int) < v1.size
  · have HN := Lib.hid (show Wai.left ⟨v0, v1, v2, v3⟩ left = -1 by have hby : (⟨v0, v1, v2, v3⟩ : Wai).bytes = v0.size + v1.size := rfl; unfold Wai.left; rw [if_neg (by omega)])
    have hd : left - (v0.size : Int) - (v1.size : Int) < 0 := by omega
    go_enter Tryz.func32, Tryz.ntmps32
    go_wp2
    go_ret
    exact ⟨by rw [HN.out]; rfl, below_new _ _⟩
  have hd1 : ¬ left - (v0.size : Int) - (v1.size : Int) < 0 := by omega
  have HN := Lib.hid (show Wai.left ⟨v0, v1, v2, v3⟩ left = left - (v0.size : Int) - (v1.size : Int) by have hby : (⟨v0, v1, v2, v3⟩ : Wai).bytes = v0.size + v1.size := rfl; unfold Wai.left; rw [if_pos (by omega)]; omega)
  go_enter Tryz.func32, Tryz.ntmps32
  go_wp2
  go_ret
  exact ⟨by rw [HN.out]; rfl, below_new _ _⟩

set_option maxHeartbeats 1000000 in
set_option maxRecDepth 100000 in
theorem szWaitS_any {w : World} {a : Option Addr} {xs : List Wai} (cap : Nat) (left : Int) (h : Recs Wai.cs w a xs) (hl : (xs.length : Int) ≤ 9223372036854775807) (hs : ∀ x ∈ xs, x.fits) (h0 : 0 ≤ left) (h1 : left ≤ 1048576) :
    Calls Tryz.prog 12 #[.slice a xs.length cap, .int .i64 left] w fun e w' => e = .returned (.int .i64 (szR Wai.bytes xs left)) ∧ Below w.heap.size w w' := by
  have H := Lib.hid h
  have HS := Lib.hid hs
  clear h hs
  by_cases hz : left < xs.length
  · have hn := Lib.hid (szR_no (z := Wai.bytes) (xs := xs) (left := left) (k := 0) (Nat.zero_le _) (by omega))
    have hd : left - (xs.length : Int) < 0 := by omega
    go_enter Tryz.func12, Tryz.ntmps12
    go_wp2
    go_ret
    exact ⟨by rw [hn.out]; rfl, Below.refl _ _⟩
  · have hd : ¬ left - (xs.length : Int) < 0 := by omega
    go_enter Tryz.func12, Tryz.ntmps12
    go_wp2
    go_loopw [1, 5] (fun t i w' => ∃ k : Nat, k ≤ xs.length ∧ i = .int .i64 k ∧ t = .int .i64 (left - xs.length - totR Wai.bytes xs k) ∧ (totR Wai.bytes xs k : Int) ≤ left - xs.length ∧ Below w.heap.size w w') (fun _ i _ => xs.length - (intOf i).toNat)
    case atStart => exact ⟨0, Nat.zero_le _, rfl, by rw [totR_zero]; go_num, by rw [totR_zero]; omega, Below.refl _ _⟩
    case round =>
      obtain ⟨k, hk, rfl, rfl, ht, hb⟩ := hrel
      have HB := Lib.hid hb
      clear hb
      by_cases hlt : k < xs.length
      · obtain ⟨b, off, rfl, _, hc0, hc1, hc2, hc3⟩ := Wai.at (H.out.below HB.out) k hlt
        obtain ⟨hz0, hz1⟩ : xs[k].who.size ≤ 9223372036854775807 ∧ xs[k].mill.size ≤ 9223372036854775807 := HS.out xs[k] (List.getElem_mem hlt)
        have hsu := Lib.hid (totR_succ (z := Wai.bytes) hlt)
        have HLE : Hid (Wai.left xs[k] (left - xs.length - totR Wai.bytes xs k) = if (xs[k].bytes : Int) ≤ left - xs.length - totR Wai.bytes xs k then left - xs.length - totR Wai.bytes xs k - xs[k].bytes else -1) := rfl
        by_cases hz : left - xs.length - totR Wai.bytes xs k < xs[k].bytes
        · have hn := Lib.hid (szR_no (z := Wai.bytes) (xs := xs) (left := left) (k := k + 1) (by omega) (by rw [hsu.out]; omega))
          have HL2 := Lib.hid (HLE.out.trans (if_neg (by omega)))
          clear HLE
          go_wp2_with fail
          refine (szWait_any _ _ _ _ _ _ hz0 hz1 (by omega) (by omega)).mono ?_
          rintro e w2 ⟨rfl, hb2⟩
          have HB2 := Lib.hid (below_trans HB.out hb2)
          clear hb2
          rw [show Wai.left ⟨xs[k].who, xs[k].mill, xs[k].amount, xs[k].ripe⟩ (left - xs.length - totR Wai.bytes xs k) = -1 from HL2.out]
          go_wp2
          go_ret
          exact ⟨by rw [hn.out]; rfl, HB2.out⟩
        · have HL2 := Lib.hid (HLE.out.trans (if_pos (by omega)))
          clear HLE
          have hd : ¬ left - (xs.length : Int) - (totR Wai.bytes xs k : Int) - (xs[k].bytes : Int) < 0 := by omega
          go_wp2_with fail
          refine (szWait_any _ _ _ _ _ _ hz0 hz1 (by omega) (by omega)).mono ?_
          rintro e w2 ⟨rfl, hb2⟩
          have HB2 := Lib.hid (below_trans HB.out hb2)
          clear hb2
          rw [show Wai.left ⟨xs[k].who, xs[k].mill, xs[k].amount, xs[k].ripe⟩ (left - xs.length - totR Wai.bytes xs k) = left - xs.length - totR Wai.bytes xs k - xs[k].bytes from HL2.out]
          go_wp2
          go_roundw
          case rel => exact ⟨k + 1, by omega, by go_num, by rw [hsu.out]; go_num, by rw [hsu.out]; omega, HB2.out⟩
          case measure => simp [intOf]; omega
      · obtain rfl : k = xs.length := by omega
        have hn := Lib.hid (szR_yes (z := Wai.bytes) (xs := xs) (left := left) (by omega))
        go_wp2
        go_ret
        exact ⟨by rw [hn.out]; rfl, HB.out⟩

set_option maxHeartbeats 1000000 in
set_option maxRecDepth 100000 in
theorem toWait_any (v0 : ByteArray) (v1 : ByteArray) (v2 : Int) (v3 : Int) (w : World) :
    Calls Tryz.prog 39 #[.agg #[.string v0, .string v1, .int .i64 v2, .int .i64 v3]] w fun e w' => e = .returned (.agg #[.string v0, .string v1, .int .i64 v2, .int .i64 v3]) ∧ Below w.heap.size w w' := by
  go_enter Tryz.func39, Tryz.ntmps39
  go_wp2
  refine bodyPost_ret (v := .agg #[.string v0, .string v1, .int .i64 v2, .int .i64 v3]) (by simp [results, Tryz.results39, go_sem]) rfl ⟨rfl, ?_⟩
  exact (((Below.refl _ _).alloc (Nat.le_refl _) _).alloc (by simp) _).alloc (by simp; omega) _

/-- What 'toWaitS' leaves: the same records, in the block behind all that was there. -/
def ToWait (xs : List Wai) (w : World) (e : Ending) (w' : World) : Prop :=
  e = .returned (.slice (some ⟨w.heap.size, 0, none⟩) xs.length xs.length) ∧ Recs Wai.cs w' (some ⟨w.heap.size, 0, none⟩) xs ∧ Below w.heap.size w w' ∧ Mine w' w.heap.size 0 (xs.length * 4) ∧ w.heap.size < w'.heap.size

theorem room_Wait {w w' : World} {n k : Nat} {xs : List Wai} (h : Room w n (xs.flatMap Wai.cs) (k * 4) w') (hk : k < xs.length) (hn : n = xs.length * 4) :
    Room w n (xs.flatMap Wai.cs) ((k + 1) * 4) ((((w'.setCell ⟨w.heap.size, k * 4, none⟩ (.string xs[k].who)).setCell ⟨w.heap.size, k * 4 + 1, none⟩ (.string xs[k].mill)).setCell ⟨w.heap.size, k * 4 + 2, none⟩ (.int .i64 xs[k].amount)).setCell ⟨w.heap.size, k * 4 + 3, none⟩ (.int .i64 xs[k].ripe)) := by
  rw [show (k + 1) * 4 = k * 4 + 1 + 1 + 1 + 1 by omega]
  exact ((((h.set (by omega) ((flat_at Wai.len xs k 0 hk (by omega)).trans rfl)).set (by omega) ((flat_at Wai.len xs k 1 hk (by omega)).trans rfl)).set (by omega) ((flat_at Wai.len xs k 2 hk (by omega)).trans rfl)).set (by omega) ((flat_at Wai.len xs k 3 hk (by omega)).trans rfl))

set_option maxHeartbeats 1000000 in
set_option maxRecDepth 100000 in
theorem toWaitS_any {w : World} {a : Option Addr} {xs : List Wai} (cap : Nat) (h : Recs Wai.cs w a xs) (hl : xs.length ≤ 1048576) :
    Calls Tryz.prog 18 #[.slice a xs.length cap] w (ToWait xs w) := by
  have H := Lib.hid h
  clear h
  have hmk := run_make_many (P := Tryz.prog) 33 46 (.agg #[.string ByteArray.empty, .string ByteArray.empty, .int .i64 0, .int .i64 0]) 4 48 Tryz.underlying33 info_Wait .i64 .i64 xs.length (by omega) (by omega)
  go_enter Tryz.func18, Tryz.ntmps18
  go_wp2
  clear hmk
  go_loopw [4] (fun i w' => ∃ k : Nat, k ≤ xs.length ∧ i = .int .i64 k ∧ Room w (xs.length * 4) (xs.flatMap Wai.cs) (k * 4) w') (fun i _ => xs.length - (intOf i).toNat)
  case atStart => exact ⟨0, Nat.zero_le _, rfl, Room.made _ _ _ _ _⟩
  case round =>
    obtain ⟨k, hk, rfl, hr⟩ := hrel
    by_cases hlt : k < xs.length
    · obtain ⟨b, off, rfl, hb, g0, g1, g2, g3⟩ := Wai.at H.out k hlt
      have hc0 := (hr.low.cell (p := ⟨b, off + k * 4, none⟩) hb).trans g0
      have hc1 := (hr.low.cell (p := ⟨b, off + k * 4 + 1, none⟩) hb).trans g1
      have hc2 := (hr.low.cell (p := ⟨b, off + k * 4 + 2, none⟩) hb).trans g2
      have hc3 := (hr.low.cell (p := ⟨b, off + k * 4 + 3, none⟩) hb).trans g3
      have HR := Lib.hid hr
      clear hr g0 g1 g2 g3
      go_wp2_with fail
      refine (toWait_any _ _ _ _ _).mono ?_
      rintro e w2 ⟨rfl, hb2⟩
      have hr2 := HR.out.below hb2
      obtain ⟨u0, hu0⟩ := hr2.all (k * 4) (by omega)
      have hf0 := hr2.free (k * 4)
      obtain ⟨u1, hu1⟩ := hr2.all (k * 4 + 1) (by omega)
      have hf1 := hr2.free (k * 4 + 1)
      obtain ⟨u2, hu2⟩ := hr2.all (k * 4 + 2) (by omega)
      have hf2 := hr2.free (k * 4 + 2)
      obtain ⟨u3, hu3⟩ := hr2.all (k * 4 + 3) (by omega)
      have hf3 := hr2.free (k * 4 + 3)
      have HR2 := Lib.hid (room_Wait hr2 hlt rfl)
      clear hr2 hb2 HR
      go_wp2
      go_roundw
      case rel => exact ⟨k + 1, by omega, by go_num, HR2.out⟩
      case measure => simp [intOf]; omega
    · obtain rfl : k = xs.length := by omega
      have HR := Lib.hid hr
      clear hr
      go_wp2
      go_ret
      have hlies := HR.out.lies (by rw [flat_length Wai.len]; omega)
      exact ⟨rfl, hlies, HR.out.low, mine_lies hlies (flat_length Wai.len xs) HR.out.free, HR.out.has⟩

set_option maxHeartbeats 1000000 in
set_option maxRecDepth 100000 in
theorem eqWait_same (v0 : ByteArray) (v1 : ByteArray) (v2 : Int) (v3 : Int) (w : World) :
    Calls Tryz.prog 51 #[.agg #[.string v0, .string v1, .int .i64 v2, .int .i64 v3], .agg #[.string v0, .string v1, .int .i64 v2, .int .i64 v3]] w fun e w' => e = .returned (.bool true) ∧ Below w.heap.size w w' := by
  go_enter Tryz.func51, Tryz.ntmps51
  go_wp2
  go_ret
  exact ⟨rfl, ((Below.refl _ _).alloc (Nat.le_refl _) _).alloc (by simp) _⟩

set_option maxHeartbeats 1000000 in
set_option maxRecDepth 100000 in
/-- Both lists hold the same records: it says so. -/
theorem eqWaitS_same {w : World} {a a' : Option Addr} {xs : List Wai} (cap cap' : Nat) (h : Recs Wai.cs w a xs) (h' : Recs Wai.cs w a' xs) (hl : xs.length ≤ 1048576) :
    Calls Tryz.prog 28 #[.slice a xs.length cap, .slice a' xs.length cap'] w fun e w' => e = .returned (.bool true) ∧ Below w.heap.size w w' := by
  have H := Lib.hid h
  have H' := Lib.hid h'
  clear h h'
  go_enter Tryz.func28, Tryz.ntmps28
  go_wp2
  go_loopw [5] (fun i w' => ∃ (k : Nat), k ≤ xs.length ∧ i = .int .i64 k ∧ Below w.heap.size w w') (fun i _ => xs.length - (intOf i).toNat)
  case atStart => exact ⟨0, Nat.zero_le _, rfl, Below.refl _ _⟩
  case round =>
    obtain ⟨k, hk, rfl, hb⟩ := hrel
    have HB := Lib.hid hb
    clear hb
    by_cases hlt : k < xs.length
    · obtain ⟨b, off, rfl, _, hc0, hc1, hc2, hc3⟩ := Wai.at (H.out.below HB.out) k hlt
      obtain ⟨b', off', rfl, _, hd0, hd1, hd2, hd3⟩ := Wai.at (H'.out.below HB.out) k hlt
      go_wp2
      go_still_tail 8, (by kernel_rfl)
      change wpList _ _ _ _ _ wr.drew
      go_wp2_with fail
      refine (eqWait_same _ _ _ _ _).mono ?_
      rintro e w2 ⟨rfl, hb2⟩
      have HB2 := Lib.hid (below_trans (show Below w.heap.size w wr.drew from below_draws HB.out 1) hb2)
      clear hb2
      go_wp2
      go_roundw
      case rel => exact ⟨k + 1, by omega, by go_num, HB2.out⟩
      case measure => simp [intOf]; omega
    · go_wp2
      go_ret
      exact ⟨rfl, HB.out⟩

/-- The record of marks from k on. -/
def Wai.mark (k : Nat) : Wai := ⟨markB (k), markB (k + 1), ((k + 2 : Nat) : Int), ((k + 3 : Nat) : Int)⟩

/-- What marks leave of a list of the call's own. -/
def MarkWait (w : World) (B : Nat) (a : Option Addr) (k n : Nat) (e : Ending) (w' : World) : Prop := e = .returned (.int .i64 ((k + n * 4 : Nat) : Int)) ∧ Recs Wai.cs w' a (marksR Wai.mark 4 k n) ∧ Below B w w'

end Go.Proofs.YtncandoohlndnaaGreat
namespace Go.Proofs.YtncandoohlndnaaGreat
open Go.ChangeShapes Go.WideShapes Go.ChangeAt Go.RowKit

/-- Is x from lo to hi? -/
def inB (lo hi x : Int) : Bool := decide (lo ≤ x ∧ x ≤ hi)
theorem inB_true {lo hi x : Int} (h : inB lo hi x = true) : lo ≤ x ∧ x ≤ hi := by simpa [inB] using h
theorem inB_of {lo hi x : Int} (h : lo ≤ x) (h2 : x ≤ hi) : inB lo hi x = true := by simp [inB, h, h2]

theorem l1In_any (x lo hi : Int) (w : World) :
    Calls Tryz.prog 56 #[.int .i64 x, .int .i64 lo, .int .i64 hi] w fun e w' => e = .returned (.bool (inB lo hi x)) ∧ w = w' := by
  by_cases h : lo ≤ x
  · by_cases h2 : x ≤ hi
    · have hb : inB lo hi x = true := by simp [inB, h, h2]
      rw [hb]; clear hb
      go_enter Tryz.func56, Tryz.ntmps56
      go_wp2
      go_ret
      exact ⟨rfl, rfl⟩
    · have hb : inB lo hi x = false := by simp [inB, h2]
      rw [hb]; clear hb
      go_enter Tryz.func56, Tryz.ntmps56
      go_wp2
      go_ret
      exact ⟨rfl, rfl⟩
  · have hb : inB lo hi x = false := by simp [inB, h]
    rw [hb]; clear hb
    go_enter Tryz.func56, Tryz.ntmps56
    go_wp2
    go_ret
    exact ⟨rfl, rfl⟩
end Go.Proofs.YtncandoohlndnaaGreat
