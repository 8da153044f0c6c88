/-
  The program's queue: one joins, all of a list join, those that are ripe leave.
-/
import Derived.Test.YtkdelfadmnpkhaaQueE
import Derived.Test.YtkdelfadmnpkhaaTag6
namespace Go.Proofs.Ytkdelfadmnpkhaa
open Go.ChangeShapes Go.WideShapes Go.ChangeAt Go.RowKit

/-- What a join leaves. -/
def Joined (w : World) (B q : Nat) (all : List Tur) (e : Ending) (w' : World) : Prop :=
  e = .returned (.tuple #[]) ∧ (∃ g cap us, Que w' B q g us cap ∧ us.Perm all ∧ Heaped us us.length) ∧ Below B w w'

set_option maxHeartbeats 2000000 in
set_option maxRecDepth 100000 in
theorem qJoin_any {w : World} {B q g cap : Nat} {ts : List Tur} (p : Wai) (h : Que w B q g ts cap) (hB : B ≤ w.heap.size) (hl : ts.length ≤ 90) (hf : Fine ts) (hh : Heaped ts ts.length) :
    Calls Try.prog 42 #[.pointer (some ⟨q, 0, none⟩), .agg #[.string p.who, .string p.mill, .int .i64 p.amount, .int .i64 p.ripe]] w (Joined w B q (ts ++ [⟨p, (ts.length : Int)⟩])) := by
  have HF := Lib.hid (show Fine (ts ++ [⟨p, (ts.length : Int)⟩]) from fun t ht => by
    rcases List.mem_append.1 ht with ht | ht
    · exact hf t ht
    · rw [List.mem_singleton] at ht; subst ht; simp only; omega)
  have HH := Lib.hid hh
  have HQ := Lib.hid (h.below (below_new w (.cells #[.string p.who, .string p.mill, .int .i64 p.amount, .int .i64 p.ripe] 26)))
  have hx := RecAt.new Wai.cs w p 26
  obtain ⟨W, hW⟩ : ∃ W, w.alloc (.cells #[.string p.who, .string p.mill, .int .i64 p.amount, .int .i64 p.ripe] 26) = W := ⟨_, rfl⟩
  have HB1 := Lib.hid (show Below B w W by rw [← hW]; exact (Below.refl _ _).alloc hB _)
  have hBW : B ≤ W.heap.size := Nat.le_trans hB HB1.out.size
  rw [hW] at HQ
  have c0 : W.cell? ⟨w.heap.size, 0, none⟩ = some (.string p.who) := by rw [← hW]; exact hx 0 _ rfl
  have c1 : W.cell? ⟨w.heap.size, 1, none⟩ = some (.string p.mill) := by rw [← hW]; exact hx 1 _ rfl
  have c2 : W.cell? ⟨w.heap.size, 2, none⟩ = some (.int .i64 p.amount) := by rw [← hW]; exact hx 2 _ rfl
  have c3 : W.cell? ⟨w.heap.size, 3, none⟩ = some (.int .i64 p.ripe) := by rw [← hW]; exact hx 3 _ rfl
  have e0 := Grow.cell c0
  have e1 := Grow.cell c1
  have e2 := Grow.cell c2
  have e3 := Grow.cell c3
  have eq := Grow.cell HQ.out.ref
  clear h hf hh hx c0 c1 c2 c3
  go_enter Try.func42, Try.ntmps42
  go_wp2_with fail
  clear hW
  refine wp_region_grow_tail 9 (by kernel_rfl) (by kernel_rfl) ?_
  simp only [List.take_succ_cons, List.take_zero, List.drop_succ_cons, List.drop_zero]
  repeat (go_big_quiet_step ((go_at_call 41; exact grow_same rfl (qLen_any _ _ _ _))))
  refine wpQuiet_nil ?_
  intro gq
  have HBG := Lib.hid (HB1.out.trans (gq.ok.mono hBW))
  go_wp2_with fail
  refine (hPush_any ⟨p, (ts.length : Int)⟩ (HQ.out.below gq.ok) (Nat.le_trans hBW gq.ok.size) hl HF.out HH.out).mono ?_
  rintro e w3 ⟨rfl, hu, hb3⟩
  have HR : Hid (Joined w B q (ts ++ [⟨p, (ts.length : Int)⟩]) (.returned (.tuple #[])) w3) := ⟨rfl, hu, HBG.out.trans hb3⟩
  clear hu hb3
  go_wp2
  exact bodyPost_end (v := .tuple #[]) (by simp [results, Try.results42, go_sem]) rfl HR.out
end Go.Proofs.Ytkdelfadmnpkhaa
