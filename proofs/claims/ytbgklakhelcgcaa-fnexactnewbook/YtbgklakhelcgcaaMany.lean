/-
  Rows of elements of several cells: 'make' and 'copy' for them; a place of the call's own of any number of cells.
-/
import Derived.Test.YtbgklakhelcgcaaMem
import Derived.Laws.CopyRow
import Derived.Laws.CopyOwn
import Derived.OwnWalk
import Derived.Deep.AppendLies
namespace Go.Proofs.Ytbgklakhelcgcaa
open Go.ChangeShapes Go.WideShapes Go.ChangeAt Go.RowKit

/-- 'make([]T, n)', an element being of any number of cells. -/
theorem run_make_many {P : Program} (t e : TypeId) (z : Value) (size bytes : Nat) (ht : P.underlying t = some (.slice e)) (hinfo : (P.info? e).map (fun i => (i.zero, i.size, i.bytes)) = some (some z, size, bytes))
    (kl kc : IntKind) (n : Nat) (hbytes : bytes * n ≤ 281474976710656) (h63 : n ≤ 9223372036854775807) (w : World) :
    (Instr.makeSlice t (.int kl (n : Int)) (.int kc (n : Int))).run P w = .ok (.slice (some ⟨w.heap.size, 0, none⟩) n n) (w.alloc (.cells (madeCells z.cells (n * size)) e)) := by
  obtain ⟨i, hi, hzz⟩ := Option.map_eq_some_iff.1 hinfo
  simp only [Prod.mk.injEq] at hzz
  obtain ⟨hz, hs, hb⟩ := hzz
  have h' : (i.bytes : Int) * (n : Int) ≤ 281474976710656 := by
    have h : ((i.bytes * n : Nat) : Int) ≤ 281474976710656 := by rw [hb]; omega
    rwa [Int.natCast_mul] at h
  have hr := run_make (P := P) w t e i z ht hi hz kl kc n n (by omega) (Int.le_refl _) h' (by omega)
  simpa only [Int.toNat_natCast, hs] using hr

theorem Room.made (w : World) (z : Array Value) (n : Nat) (t : TypeId) (xs : List Value) : Room w n xs 0 (w.alloc (.cells (madeCells z n) t)) where
  low := (Below.refl _ _).alloc (Nat.le_refl _) _
  has := by simp
  all := fun j hj => by
    have hs : (madeCells z n).size = n := size_madeCells z n
    refine ⟨(madeCells z n)[j]'(by omega), ?_⟩
    simp only [World.cell?, heap_alloc_new]
    simp [hs, hj]
  free := fun o => by go_simp
  full := fun j v hj _ => by omega

theorem Room.below {w w' w2 : World} {n k : Nat} {xs : List Value} (h : Room w n xs k w') (hb : Below w'.heap.size w' w2) : Room w n xs k w2 where
  low := below_trans h.low hb
  has := Nat.lt_of_lt_of_le h.has hb.size
  all := fun j hj => by obtain ⟨v, hv⟩ := h.all j hj; exact ⟨v, by rw [hb.cell (p := ⟨w.heap.size, j, none⟩) h.has]; exact hv⟩
  free := fun o => by rw [hb.frozen (p := ⟨w.heap.size, o, none⟩) h.has]; exact h.free o
  full := fun j v hj hv => by rw [hb.cell (p := ⟨w.heap.size, j, none⟩) h.has]; exact h.full j v hj hv

theorem grown_keeps {w w' : World} {row : Option Nat} (h : w.grownBy w' row) {b o : Nat} (hb : b < w.heap.size) (hne : some b ≠ row) : w'.cell? ⟨b, o, none⟩ = w.cell? ⟨b, o, none⟩ :=
  World.cell?_of_block (h.block b hb hne)
theorem gid (w : World) (row : Option Nat) : w.grownBy w row := ⟨rfl, rfl, rfl, Nat.le_refl _, fun _ _ _ => rfl⟩
theorem gbelow {w w1 w2 : World} {row : Option Nat} (h : w.grownBy w1 row) (k : Below w1.heap.size w1 w2) : w.grownBy w2 row :=
  ⟨k.os.trans h.os, k.tape.trans h.tape, k.output.trans h.output, Nat.le_trans h.size k.size, fun i hi hne => (k.block i (Nat.lt_of_lt_of_le hi h.size)).trans (h.block i hi hne)⟩
theorem gset {w w1 : World} {b o : Nat} (h : w.grownBy w1 (some b)) (v : Value) : w.grownBy (w1.setCell ⟨b, o, none⟩ v) (some b) := by
  refine ⟨h.os, h.tape, h.output, Nat.le_trans h.size (by simp [World.setCell]), fun i hi hne => ?_⟩
  rw [Below.heap_setCell _ _ _ _ (by intro e; exact hne (by rw [e]))]
  exact h.block i hi hne
theorem bgrown {w w1 w2 : World} {B : Nat} {row : Option Nat} (h : Below B w w1) (hB : B ≤ w1.heap.size) (k : w1.grownBy w2 row) (hr : ∀ g, row = some g → B ≤ g) : Below B w w2 :=
  h.trans ⟨k.os, k.tape, k.output, k.size, fun i hi => k.block i (by omega) (by intro e; have := hr i e.symm; omega)⟩

/-- 'copy' of elements of any number of cells, over a whole row of the call's own. -/
theorem run_copy_many {P : Program} (w : World) (dT sT ty elem : TypeId) (size g dCap n : Nat) (sp : Option Addr) (sCap : Nat) (cur : Array Value) (t : TypeId) (cs : List Value)
    (hu : P.underlying dT = some (.slice elem)) (hs : (P.info? elem).map (·.size) = some size) (hsz : 0 < size) (hg : w.heap[g]? = some (.cells cur t (0, 0))) (hcur : cur.size = n * size) (hc : cs.length = n * size)
    (hsrc : Lies w sp cs) (h1 : ∀ v ∈ cs, v.oneCell' = true) :
    (Builtin.copy_ #[dT, sT] ty #[.slice (some ⟨g, 0, none⟩) n dCap, .slice sp n sCap]).run P w = .ok (goInt n) (w.setRow g cs.toArray) := by
  cases hq : P.info? elem with
  | none => simp [hq] at hs
  | some i =>
    have hi : i.size = size := by simpa [hq] using hs
    cases n with
    | zero =>
      have hcs : cs = [] := List.eq_nil_of_length_eq_zero (by omega)
      have hce : cur = #[] := Array.eq_empty_of_size_eq_zero (by omega)
      subst hcs; subst hce
      have hl : ∀ (x : Addr), (loadCells x 0).run P w = .ok #[] w := fun x => by simpa using run_loadCells_list (P := P) w x [] (by simp)
      have hself := setRow_self w g #[] t (0, 0) hg
      cases sp <;> simp [Builtin.copy_, run_underlying hu, Builtin.lenOf, Builtin.firstCells, sizeOf, typeInfo, hq, storeCells, hl, hself]
    | succ n =>
      have hpos : 0 < cs.length := by rw [hc]; exact Nat.mul_pos (by omega) hsz
      obtain ⟨b, off, rfl, _⟩ := hsrc 0 cs[0] (List.getElem?_eq_getElem hpos)
      have hsrc' : ∀ j v, cs[j]? = some v → w.cell? ((⟨b, off, none⟩ : Addr).add j) = some v := by
        intro j v hj
        obtain ⟨b', off', e, hv⟩ := hsrc j v hj
        injection e with e; injection e with e1 e2; subst e1; subst e2
        rw [add_plain]; exact hv
      have hl := run_loadCells_list (P := P) w ⟨b, off, none⟩ cs hsrc'
      have hst := run_storeCells_at P g 0 t cs 0 cur w hg (by simp; omega) h1
      have hd : cur.toList.drop (0 + 0 + cs.length) = [] := List.drop_eq_nil_of_le (by simp; omega)
      rw [hd] at hst
      simp only [Nat.add_zero, List.take_zero, List.nil_append, List.append_nil] at hst
      simp [Builtin.copy_, run_underlying hu, Builtin.lenOf, Builtin.firstCells, sizeOf, typeInfo, hq, hi, ← hc, hl, hst]

theorem setRow_new (w : World) (c cs : Array Value) (t : TypeId) : (w.alloc (.cells c t)).setRow w.heap.size cs = w.alloc (.cells cs t) := by
  unfold World.setRow World.alloc
  congr 1
  apply Array.ext
  · simp
  · intro k h1 h2
    simp only [Array.getElem_modify, Array.getElem_push]
    split
    · rename_i hk; subst hk; simp
    · split
      · rfl
      · rename_i h3 h4; simp at h1; omega

/-- 'copy' over a row that is new. -/
theorem run_copy_new {P : Program} (w : World) (dT sT ty elem : TypeId) (size dCap n : Nat) (sp : Option Addr) (sCap : Nat) (cur : Array Value) (t : TypeId) (cs : List Value)
    (hu : P.underlying dT = some (.slice elem)) (hs : (P.info? elem).map (·.size) = some size) (hsz : 0 < size) (hcur : cur.size = n * size) (hc : cs.length = n * size)
    (hsrc : Lies w sp cs) (h1 : ∀ v ∈ cs, v.oneCell' = true) :
    (Builtin.copy_ #[dT, sT] ty #[.slice (some ⟨w.heap.size, 0, none⟩) n dCap, .slice sp n sCap]).run P (w.alloc (.cells cur t)) = .ok (goInt n) (w.alloc (.cells cs.toArray t)) := by
  have hrun := run_copy_many (P := P) (w.alloc (.cells cur t)) dT sT ty elem size w.heap.size dCap n sp sCap cur t cs hu hs hsz (heap_alloc_new _ _) hcur hc (hsrc.below ((Below.refl _ _).alloc (Nat.le_refl _) _)) h1
  rw [setRow_new] at hrun
  exact hrun

/-- A row that is new. -/
theorem lies_new (w : World) (cs : List Value) (t : TypeId) : Lies (w.alloc (.cells cs.toArray t)) (some ⟨w.heap.size, 0, none⟩) cs := by
  intro k v hk
  exact ⟨_, _, rfl, by simp only [World.cell?, heap_alloc_new]; simpa using hk⟩
theorem below_new (w : World) (o : Obj) : Below w.heap.size w (w.alloc o) := (Below.refl _ _).alloc (Nat.le_refl _) _
theorem free_new (w : World) (c : Array Value) (t : TypeId) (o : Nat) : (w.alloc (.cells c t)).frozen? ⟨w.heap.size, o, none⟩ = false := by go_simp

/-- This place, of n cells, may be written: all are there, none is frozen. -/
structure Mine (w : World) (b off n : Nat) : Prop where
  all : ∀ j, j < n → ∃ v, w.cell? ⟨b, off + j, none⟩ = some v
  free : ∀ o, w.frozen? ⟨b, o, none⟩ = false
/-- The first k cells of that place hold xs's; all other blocks are as they were. -/
structure Wrote (w : World) (b off n : Nat) (xs : List Value) (k : Nat) (w' : World) : Prop where
  grown : w.grownBy w' (some b)
  mine : Mine w' b off n
  full : ∀ j v, j < k → xs[j]? = some v → w'.cell? ⟨b, off + j, none⟩ = some v
theorem Wrote.start {w : World} {b off n : Nat} (h : Mine w b off n) (xs : List Value) : Wrote w b off n xs 0 w := ⟨gid _ _, h, fun _ _ h => by omega⟩
theorem Mine.set {w : World} {b off n : Nat} (h : Mine w b off n) (o : Nat) (v : Value) : Mine (w.setCell ⟨b, o, none⟩ v) b off n where
  all := fun j hj => by
    obtain ⟨u, hu⟩ := h.all j hj
    by_cases e : off + j = o
    · subst e; exact ⟨v, by rw [World.cell?_setCell_same _ _ _ hu]⟩
    · exact ⟨u, by rw [World.cell?_setCell_other _ _ _ _ (by intro q; injection q with _ q; exact e (by omega))]; exact hu⟩
  free := fun o => by have := h.free o; go_simp
theorem Mine.below {w w' : World} {b off n : Nat} (h : Mine w b off n) (hb : b < w.heap.size) (k : Below w.heap.size w w') : Mine w' b off n where
  all := fun j hj => by obtain ⟨u, hu⟩ := h.all j hj; exact ⟨u, by rw [k.cell (p := ⟨b, off + j, none⟩) hb]; exact hu⟩
  free := fun o => by rw [k.frozen (p := ⟨b, o, none⟩) hb]; exact h.free o
theorem Mine.grown {w w' : World} {b off n : Nat} {row : Option Nat} (h : Mine w b off n) (hb : b < w.heap.size) (k : w.grownBy w' row) (hne : some b ≠ row) : Mine w' b off n where
  all := fun j hj => by obtain ⟨u, hu⟩ := h.all j hj; exact ⟨u, by rw [grown_keeps k hb hne]; exact hu⟩
  free := fun o => by rw [World.frozen?_of_block (k.block b hb hne)]; exact h.free o
theorem Wrote.set {w w' : World} {b off n k : Nat} {xs : List Value} {v : Value} (h : Wrote w b off n xs k w') (hk : k < n) (hv : xs[k]? = some v) : Wrote w b off n xs (k + 1) (w'.setCell ⟨b, off + k, none⟩ v) where
  grown := gset h.grown v
  mine := h.mine.set _ _
  full := fun j u hj hu => by
    by_cases e : j = k
    · subst e
      obtain ⟨x, hx⟩ := h.mine.all j hk
      rw [hv] at hu
      injection hu with hu
      subst hu
      rw [World.cell?_setCell_same _ _ _ hx]
    · rw [World.cell?_setCell_other _ _ _ _ (by intro q; injection q with _ q; exact e (by omega))]
      exact h.full j u (by omega) hu
theorem Wrote.put {w w' : World} {b off n k p q : Nat} {xs : List Value} {v : Value} (h : Wrote w b off n xs k w') (hk : k < n) (hv : xs[k]? = some v) (hp : p = off + k) (hq : q = k + 1) : Wrote w b off n xs q (w'.setCell ⟨b, p, none⟩ v) := by
  subst hp; subst hq; exact h.set hk hv
theorem Wrote.below {w w' w2 : World} {b off n k : Nat} {xs : List Value} (h : Wrote w b off n xs k w') (hb : b < w.heap.size) (q : Below w'.heap.size w' w2) : Wrote w b off n xs k w2 :=
  ⟨gbelow h.grown q, h.mine.below (Nat.lt_of_lt_of_le hb h.grown.size) q, fun j v hj hv => by rw [q.cell (p := ⟨b, off + j, none⟩) (Nat.lt_of_lt_of_le hb h.grown.size)]; exact h.full j v hj hv⟩
theorem Wrote.lies {w w' : World} {b off n : Nat} {xs : List Value} (h : Wrote w b off n xs n w') (hn : xs.length ≤ n) : Lies w' (some ⟨b, off, none⟩) xs := by
  intro k v hk
  have hlt : k < xs.length := (List.getElem?_eq_some_iff.1 hk).1
  exact ⟨_, _, rfl, h.full k v (by omega) hk⟩
end Go.Proofs.Ytbgklakhelcgcaa
