/-
  The program's queue: two change places, one behind all, the last one out.
-/
import Derived.Test.YtkdelfadmnpkhaaQueA
import Derived.Deep.MidRow
namespace Go.Proofs.Ytkdelfadmnpkhaa
open Go.ChangeShapes Go.WideShapes Go.ChangeAt Go.RowKit

/-- A queue: block q holds where the row is, block g the row; both are the call's own, from block B on. -/
structure Que (w : World) (B q g : Nat) (ts : List Tur) (cap : Nat) : Prop where
  ref : w.cell? ⟨q, 0, none⟩ = some (.slice (some ⟨g, 0, none⟩) ts.length cap)
  free : w.frozen? ⟨q, 0, none⟩ = false
  row : w.ownsRow B 89 5 (.slice (some ⟨g, 0, none⟩) ts.length cap) ts.length (ts.flatMap Tur.cs)
  lo : B ≤ q
  hi : q < w.heap.size
  ne : q ≠ g

/-- Nothing has turned but what lies in these two blocks. -/
structure But (q g : Nat) (w w' : World) : Prop where
  os : w'.os = w.os
  tape : w'.tape = w.tape
  output : w'.output = w.output
  size : w.heap.size ≤ w'.heap.size
  block : ∀ k, k < w.heap.size → k ≠ q → k ≠ g → w'.heap[k]? = w.heap[k]?
theorem But.refl (q g : Nat) (w : World) : But q g w w := ⟨rfl, rfl, rfl, Nat.le_refl _, fun _ _ _ _ => rfl⟩
theorem But.trans {q g : Nat} {a b c : World} (h : But q g a b) (k : But q g b c) : But q g a c :=
  ⟨k.os.trans h.os, k.tape.trans h.tape, k.output.trans h.output, Nat.le_trans h.size k.size, fun i hi h1 h2 => (k.block i (Nat.lt_of_lt_of_le hi h.size) h1 h2).trans (h.block i hi h1 h2)⟩
theorem But.of {q g : Nat} {w w' : World} (h : Below w.heap.size w w') : But q g w w' := ⟨h.os, h.tape, h.output, h.size, fun i hi _ _ => h.block i hi⟩
theorem But.row {q g : Nat} {w w' : World} (h : w.grownBy w' (some g)) : But q g w w' := ⟨h.os, h.tape, h.output, h.size, fun i hi _ h2 => h.block i hi (by intro e; injection e with e; exact h2 e)⟩
theorem But.below {q g B : Nat} {w w' : World} (h : But q g w w') (hB : B ≤ w.heap.size) (hq : B ≤ q) (hg : B ≤ g) : Below B w w' :=
  ⟨h.os, h.tape, h.output, h.size, fun i hi => h.block i (by omega) (by omega) (by omega)⟩
theorem But.own {q g : Nat} {w w' : World} {base : Nat} {e : TypeId} {c : Nat} {v : Value} {n : Nat} {xs : List Value} (h : But q g w w') (ho : w.ownsRow base e c v n xs) (hq : ∀ b, v.ownBlock = some b → b ≠ q ∧ b ≠ g) : w'.ownsRow base e c v n xs := by
  refine ⟨ho.1, ?_⟩
  rcases ho.2 with h0 | ⟨b, cap, cur, hv, hb, hh, hr⟩
  · exact .inl h0
  · have := hq b (by rw [hv]; rfl)
    exact .inr ⟨b, cap, cur, hv, hb, by rw [h.block b (Array.getElem?_eq_some_iff.1 hh).1 this.1 this.2]; exact hh, hr⟩
theorem But.ownR {α : Type} {f : α → List Value} {c q g B : Nat} {w w' : World} {a : Option Addr} {xs : List α} (h : But q g w w') (ho : OwnR f c w B a xs) (hq : q < B) (hg : g < B) : OwnR f c w' B a xs := by
  rcases ho.2 with rfl | ⟨b, rfl, h1, h2, hm⟩
  · exact ⟨Lies.nil _ _, .inl rfl⟩
  · have hk := h.block b h2 (by omega) (by omega)
    have hc : ∀ o, w'.cell? ⟨b, o, none⟩ = w.cell? ⟨b, o, none⟩ := fun o => World.cell?_of_block hk
    have hz : ∀ o, w'.frozen? ⟨b, o, none⟩ = w.frozen? ⟨b, o, none⟩ := fun o => World.frozen?_of_block hk
    refine ⟨?_, .inr ⟨b, rfl, h1, Nat.lt_of_lt_of_le h2 h.size, ⟨fun j hj => ?_, fun o => ?_⟩⟩⟩
    · intro k v hk
      obtain ⟨b', off, e, hcc⟩ := ho.1 k v hk
      injection e with e; injection e with e1 e2; subst e1; subst e2
      exact ⟨b, 0, rfl, by rw [hc]; exact hcc⟩
    · obtain ⟨v, hv⟩ := hm.all j hj
      exact ⟨v, by rw [hc]; exact hv⟩
    · rw [hz]; exact hm.free o

section
variable {w w' : World} {B q g cap : Nat} {ts : List Tur}
theorem Que.recs (h : Que w B q g ts cap) : Recs Tur.cs w (some ⟨g, 0, none⟩) ts := by
  obtain ⟨a, c', e, hr, -⟩ := ownR_of Tur.len h.row
  injection e with e1
  subst e1
  exact hr.1
theorem Que.below (h : Que w B q g ts cap) (hb : Below w.heap.size w w') : Que w' B q g ts cap :=
  ⟨(hb.cell (p := ⟨q, 0, none⟩) h.hi).trans h.ref, (hb.frozen (p := ⟨q, 0, none⟩) h.hi).trans h.free, own_below h.row hb, h.lo, Nat.lt_of_lt_of_le h.hi hb.size, h.ne⟩
theorem Que.glo (h : Que w B q g ts cap) : B ≤ g ∧ g < w.heap.size := ⟨(own_some h.row).2.2.2.1, (own_some h.row).2.2.2.2⟩
theorem Que.open (h : Que w B q g ts cap) : ∀ o, w.frozen? ⟨g, o, none⟩ = false := by
  rcases h.row.2 with ⟨h0, -⟩ | ⟨g', cap', cur, hv, hg, hh, -⟩
  · simp at h0
  · injection hv with e1
    injection e1 with e1
    injection e1 with e1
    subst e1
    intro o; simp [World.frozen?, hh]
/-- The row is written over, where it is. -/
theorem Que.turned {us : List Tur} (h : Que w B q g ts cap) (hg : w.grownBy w' (some g)) (hl : us.length = ts.length) (ho : w'.ownsRow B 89 5 (.slice (some ⟨g, 0, none⟩) ts.length cap) ts.length (us.flatMap Tur.cs)) : Que w' B q g us cap := by
  have hb := hg.block q h.hi (by intro e; injection e with e; exact h.ne e)
  exact ⟨by rw [World.cell?_of_block hb, hl]; exact h.ref, by rw [World.frozen?_of_block hb]; exact h.free, by rw [hl]; exact ho, h.lo, Nat.lt_of_lt_of_le h.hi hg.size, h.ne⟩
end

/-- Five cells of a row are written: one of its records is another one. -/
theorem flat_set5 (t : Tur) : ∀ (ts : List Tur) (i : Nat), i < ts.length → (((((ts.flatMap Tur.cs).set (i * 5) (.string t.w.who)).set (i * 5 + 1) (.string t.w.mill)).set (i * 5 + 2) (.int .i64 t.w.amount)).set (i * 5 + 3) (.int .i64 t.w.ripe)).set (i * 5 + 4) (.int .i64 t.came) = (ts.set i t).flatMap Tur.cs
  | x :: r, 0, _ => by simp [Tur.cs]
  | x :: r, i + 1, h => by
    have ih := flat_set5 t r i (by simpa using h)
    have key : ∀ (l : List Value) (m : Nat) (v : Value), (x.cs ++ l).set (m + 5) v = x.cs ++ l.set m v := by
      intro l m v
      rw [List.set_append_right _ _ (by rw [Tur.len]; omega), Tur.len, show m + 5 - 5 = m by omega]
    rw [List.flatMap_cons, List.set_cons_succ, List.flatMap_cons, ← ih]
    rw [show (i + 1) * 5 = i * 5 + 5 by omega, show i * 5 + 5 + 1 = i * 5 + 1 + 5 by omega, show i * 5 + 5 + 2 = i * 5 + 2 + 5 by omega, show i * 5 + 5 + 3 = i * 5 + 3 + 5 by omega, show i * 5 + 5 + 4 = i * 5 + 4 + 5 by omega]
    rw [key, key, key, key, key]
/-- The world behind a record that was written into a row. -/
def put5 (w : World) (g i : Nat) (t : Tur) : World := ((((w.setCell ⟨g, i * 5, none⟩ (.string t.w.who)).setCell ⟨g, i * 5 + 1, none⟩ (.string t.w.mill)).setCell ⟨g, i * 5 + 2, none⟩ (.int .i64 t.w.amount)).setCell ⟨g, i * 5 + 3, none⟩ (.int .i64 t.w.ripe)).setCell ⟨g, i * 5 + 4, none⟩ (.int .i64 t.came)
theorem put5_own {w : World} {B g cap i : Nat} {ts : List Tur} (t : Tur) (h : w.ownsRow B 89 5 (.slice (some ⟨g, 0, none⟩) ts.length cap) ts.length (ts.flatMap Tur.cs)) (hi : i < ts.length) :
    (put5 w g i t).ownsRow B 89 5 (.slice (some ⟨g, 0, none⟩) ts.length cap) ts.length ((ts.set i t).flatMap Tur.cs) := by
  rw [← flat_set5 t ts i hi]
  exact own_set (own_set (own_set (own_set (own_set h _) _) _) _) _
theorem put5_grown (w : World) (g i : Nat) (t : Tur) : w.grownBy (put5 w g i t) (some g) := gset (gset (gset (gset (gset (gid w _) _) _) _) _) _
theorem put5_is (w : World) (g i : Nat) (t : Tur) : w.setCells g (i * 5) t.cs = put5 w g i t := rfl
theorem own_there {w : World} {B g cap i : Nat} {ts : List Tur} (h : w.ownsRow B 89 5 (.slice (some ⟨g, 0, none⟩) ts.length cap) ts.length (ts.flatMap Tur.cs)) (hi : i < ts.length) : w.there g (i * 5) 5 := by
  rcases h.2 with ⟨h0, -⟩ | ⟨g', cap', cur, hv, hg, hh, hle, hm, hs, ht⟩
  · simp at h0
  · injection hv with e1 _ e3
    injection e1 with e1
    injection e1 with e1
    subst e1; subst e3
    intro j hj
    have hlt : i * 5 + j < cur.size := by omega
    exact ⟨by simp [World.cell?, hh, hlt], by simp [World.frozen?, hh]⟩
theorem size_turn : (Try.prog.info? 89).map (·.size) = some 5 := by kernel_rfl

theorem put5_keeps {w w1 : World} {g : Nat} (h : w.grownBy w1 (some g)) (i : Nat) (t : Tur) : w.grownBy (put5 w1 g i t) (some g) := gset (gset (gset (gset (gset h _) _) _) _) _

set_option maxHeartbeats 2000000 in
set_option maxRecDepth 100000 in
theorem qSwap_any {w : World} {B q g i j cap : Nat} {ts : List Tur} (h : Que w B q g ts cap) (hi : i < ts.length) (hj : j < ts.length) :
    Calls Try.prog 96 #[.slice (some ⟨g, 0, none⟩) ts.length cap, .int .i64 i, .int .i64 j] w fun e w' => e = .returned (.tuple #[]) ∧ Que w' B q g (swapT ts i j) cap ∧ w.grownBy w' (some g) := by
  obtain ⟨hg, c0, c1, c2, c3, c4⟩ := Tur.at h.recs i hi
  obtain ⟨-, d0, d1, d2, d3, d4⟩ := Tur.at h.recs j hj
  have HR : Hid (Que (put5 (put5 w g i ts[j]) g j ts[i]).drew B q g (swapT ts i j) cap ∧ w.grownBy (put5 (put5 w g i ts[j]) g j ts[i]).drew (some g)) := by
    have ho1 := put5_own ts[j] h.row hi
    have ho2 := put5_own (ts := ts.set i ts[j]) (i := j) (cap := cap) ts[i] (by simpa using ho1) (by simpa using hj)
    have hgr := put5_keeps (put5_keeps (gid w (some g)) i ts[j]) j ts[i]
    refine ⟨(h.turned hgr (swapT_len ts i j) ?_).below (below_draws (Below.refl _ _) 1), gbelow hgr (below_draws (Below.refl _ _) 1)⟩
    unfold swapT
    rw [tatn_eq hi, tatn_eq hj]
    simpa using ho2
  have hz : ∀ o, w.frozen? ⟨g, o, none⟩ = false := h.open
  clear h
  obtain ⟨oi, hoi⟩ : ∃ o, i * 5 = o := ⟨_, rfl⟩
  obtain ⟨oj, hoj⟩ : ∃ o, j * 5 = o := ⟨_, rfl⟩
  rw [hoi] at c0 c1 c2 c3 c4
  rw [hoj] at d0 d1 d2 d3 d4
  rcases Nat.lt_trichotomy i j with hij | hij | hij
  · have hoij : oi + 5 ≤ oj := by omega
    go_enter Try.func96, Try.ntmps96
    go_wp2_with fail
    go_region
    subst hoi; subst hoj
    exact bodyPost_end (v := .tuple #[]) (by simp [results, Try.results96, go_sem]) rfl ⟨rfl, HR.out⟩
  · subst hij
    subst hoj
    clear d0 d1 d2 d3 d4
    go_enter Try.func96, Try.ntmps96
    go_wp2_with fail
    go_region
    subst hoi
    exact bodyPost_end (v := .tuple #[]) (by simp [results, Try.results96, go_sem]) rfl ⟨rfl, HR.out⟩
  · have hoij : oj + 5 ≤ oi := by omega
    go_enter Try.func96, Try.ntmps96
    go_wp2_with fail
    go_region
    subst hoi; subst hoj
    exact bodyPost_end (v := .tuple #[]) (by simp [results, Try.results96, go_sem]) rfl ⟨rfl, HR.out⟩
end Go.Proofs.Ytkdelfadmnpkhaa
