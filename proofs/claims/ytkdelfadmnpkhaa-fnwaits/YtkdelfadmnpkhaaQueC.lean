/-
  The program's queue: one behind all, the last one out.
-/
import Derived.Test.YtkdelfadmnpkhaaQueB
namespace Go.Proofs.Ytkdelfadmnpkhaa
open Go.ChangeShapes Go.WideShapes Go.ChangeAt Go.RowKit

theorem info_turn : (Try.prog.info? 89).map (fun i => (i.zero, i.size, i.bytes)) = some (some (.agg #[.string ByteArray.empty, .string ByteArray.empty, .int .i64 0, .int .i64 0, .int .i64 0]), 5, 56) := by kernel_rfl

/-- A turn as a value. -/
def Tur.val (t : Tur) : Value := .agg #[.string t.w.who, .string t.w.mill, .int .i64 t.w.amount, .int .i64 t.w.ripe, .int .i64 t.came]

theorem assert_turn (t : Tur) (w : World) : (Instr.typeAssert (.iface 89 (.agg #[.string t.w.who, .string t.w.mill, .int .i64 t.w.amount, .int .i64 t.w.ripe, .int .i64 t.came])) 20 89 false).run Try.prog w = .ok (.agg #[.string t.w.who, .string t.w.mill, .int .i64 t.w.amount, .int .i64 t.w.ripe, .int .i64 t.came]) w := by kernel_rfl

theorem field_turn (t : Tur) (w : World) : (Instr.field 89 (.agg #[.string t.w.who, .string t.w.mill, .int .i64 t.w.amount, .int .i64 t.w.ripe, .int .i64 t.came]) 0).run Try.prog w = .ok (.agg #[.string t.w.who, .string t.w.mill, .int .i64 t.w.amount, .int .i64 t.w.ripe]) w := by kernel_rfl

section
variable {w w' : World} {B q g cap : Nat} {ts : List Tur}
/-- Where the row is, is written over. -/
theorem Que.refSet {g' cap' : Nat} {us : List Tur} (hc : ∃ v, w.cell? ⟨q, 0, none⟩ = some v) (hf : w.frozen? ⟨q, 0, none⟩ = false) (ho : w.ownsRow B 89 5 (.slice (some ⟨g', 0, none⟩) us.length cap') us.length (us.flatMap Tur.cs)) (hlo : B ≤ q) (hhi : q < w.heap.size) (hne : q ≠ g') :
    Que (w.setCell ⟨q, 0, none⟩ (.slice (some ⟨g', 0, none⟩) us.length cap')) B q g' us cap' := by
  obtain ⟨v, hv⟩ := hc
  refine ⟨World.cell?_setCell_same _ _ _ hv, by go_simp, ?_, hlo, by simpa [World.setCell] using hhi, hne⟩
  exact ho.kept (gset (gid w (some q)) (o := 0) _) (.inr (by intro e; injection e with e; exact hne e.symm))
theorem But.setRef (q g : Nat) (w : World) (v : Value) : But q g w (w.setCell ⟨q, 0, none⟩ v) := by
  have h := gset (gid w (some q)) (o := 0) v
  exact ⟨h.os, h.tape, h.output, h.size, fun i hi h1 _ => h.block i hi (by intro e; injection e with e; exact h1 e)⟩
/-- The row's first n alone. -/
theorem own_take {n : Nat} (h : w.ownsRow B 89 5 (.slice (some ⟨g, 0, none⟩) ts.length cap) ts.length (ts.flatMap Tur.cs)) (hn : n ≤ ts.length) : w.ownsRow B 89 5 (.slice (some ⟨g, 0, none⟩) (ts.take n).length cap) (ts.take n).length ((ts.take n).flatMap Tur.cs) := by
  have e : (ts.take n).length = n := by simp; omega
  refine ⟨flat_length Tur.len _, ?_⟩
  rcases h.2 with ⟨h0, -⟩ | ⟨g', cap', cur, hv, hg, hh, hle, hm, hs, ht⟩
  · simp at h0
  · injection hv with e1 _ e3
    injection e1 with e1
    injection e1 with e1
    subst e1; subst e3
    refine .inr ⟨g, cap, cur, rfl, hg, hh, by omega, hm, hs, ?_⟩
    rw [e, flat_take Tur.len, ← ht, List.take_take, Nat.min_eq_left (by omega)]
end

set_option maxHeartbeats 4000000 in
set_option maxRecDepth 100000 in
theorem qPop_any {w : World} {B q g n cap : Nat} {ts : List Tur} (h : Que w B q g ts cap) (hn : ts.length = n + 1) (hl : n ≤ 100) :
    Calls Try.prog 94 #[.pointer (some ⟨q, 0, none⟩)] w fun e w' => e = .returned (.iface 89 (tatn ts n).val) ∧ Que w' B q g (ts.take n) cap ∧ But q g w w' := by
  have hlt : n < ts.length := by omega
  obtain ⟨hg, c0, c1, c2, c3, c4⟩ := Tur.at h.recs n hlt
  have hr := h.ref
  have hf := h.free
  have hq := h.hi
  have hne := h.ne
  have hcap := (own_some h.row).2.1
  have HT := Lib.hid (tatn_eq hlt)
  have HR : Hid (Que ((w.setCell ⟨q, 0, none⟩ (.slice (some ⟨g, 0, none⟩) n cap)).alloc (.cells #[.string ts[n].w.who, .string ts[n].w.mill, .int .i64 ts[n].w.amount, .int .i64 ts[n].w.ripe, .int .i64 ts[n].came] 89)) B q g (ts.take n) cap ∧ But q g w ((w.setCell ⟨q, 0, none⟩ (.slice (some ⟨g, 0, none⟩) n cap)).alloc (.cells #[.string ts[n].w.who, .string ts[n].w.mill, .int .i64 ts[n].w.amount, .int .i64 ts[n].w.ripe, .int .i64 ts[n].came] 89))) := by
    have e : (ts.take n).length = n := by simp; omega
    have := Que.refSet (us := ts.take n) ⟨_, h.ref⟩ h.free (own_take h.row (by omega)) h.lo h.hi h.ne
    rw [e] at this
    exact ⟨this.below (below_new _ _), (But.setRef q g w _).trans (But.of (below_new _ _))⟩
  rw [hn] at hr
  clear h
  go_enter Try.func94, Try.ntmps94
  go_wp2
  go_ret
  exact ⟨by rw [HT.out]; rfl, HR.out⟩

/-- What Push and join leave. -/
def Pushed (w : World) (B q : Nat) (us : List Tur) (e : Ending) (w' : World) : Prop := e = .returned (.tuple #[]) ∧ (∃ g cap, Que w' B q g us cap) ∧ Below B w w'

set_option maxHeartbeats 2000000 in
set_option maxRecDepth 100000 in
theorem qPush_any {w : World} {B q g cap : Nat} {ts : List Tur} (t : Tur) (h : Que w B q g ts cap) (hB : B ≤ w.heap.size) (hl : ts.length ≤ 100) :
    Calls Try.prog 95 #[.pointer (some ⟨q, 0, none⟩), .iface 89 t.val] w (Pushed w B q (ts ++ [t])) := by
  obtain ⟨i0, hi, hz0, hz1, hz2⟩ := info_parts info_turn
  have HI := Lib.hid hi
  have HZ0 := Lib.hid hz0
  have HZ1 := Lib.hid hz1
  have HZ2 := Lib.hid hz2
  clear hi hz0 hz1 hz2
  have hr := h.ref
  have hf := h.free
  have hq := h.hi
  have hne := h.ne
  obtain ⟨hg1, hg2⟩ := h.glo
  have hqlo := h.lo
  have HO := Lib.hid (show (w.drew.alloc (.cells #[.string t.w.who, .string t.w.mill, .int .i64 t.w.amount, .int .i64 t.w.ripe, .int .i64 t.came] 89)).ownsRow B 89 5 (.slice (some ⟨g, 0, none⟩) ts.length cap) ts.length (ts.flatMap Tur.cs) from (own_below h.row (below_draws (Below.refl _ _) 1)).alloc _)
  have HBA := Lib.hid (show Below B w (w.drew.alloc (.cells #[.string t.w.who, .string t.w.mill, .int .i64 t.w.amount, .int .i64 t.w.ripe, .int .i64 t.came] 89)) from ((below_draws (Below.refl B w) 1).alloc hB _))
  have HN := Lib.hid (show ∀ j u, t.cs[j]? = some u → (w.drew.alloc (.cells #[.string t.w.who, .string t.w.mill, .int .i64 t.w.amount, .int .i64 t.w.ripe, .int .i64 t.came] 89)).cell? ((⟨w.heap.size, 0, none⟩ : Addr).add j) = some u from by
    intro j u hj
    rw [add_plain, Nat.zero_add]
    exact RecAt.new Tur.cs w.drew t 89 j u hj)
  have hrA : (w.drew.alloc (.cells #[.string t.w.who, .string t.w.mill, .int .i64 t.w.amount, .int .i64 t.w.ripe, .int .i64 t.came] 89)).cell? ⟨q, 0, none⟩ = some (.slice (some ⟨g, 0, none⟩) ts.length cap) := by
    have := (below_new w.drew (.cells #[.string t.w.who, .string t.w.mill, .int .i64 t.w.amount, .int .i64 t.w.ripe, .int .i64 t.came] 89)).cell (p := ⟨q, 0, none⟩) hq
    rw [this]; exact hr
  have hfA : (w.drew.alloc (.cells #[.string t.w.who, .string t.w.mill, .int .i64 t.w.amount, .int .i64 t.w.ripe, .int .i64 t.came] 89)).frozen? ⟨q, 0, none⟩ = false := by
    have := (below_new w.drew (.cells #[.string t.w.who, .string t.w.mill, .int .i64 t.w.amount, .int .i64 t.w.ripe, .int .i64 t.came] 89)).frozen (p := ⟨q, 0, none⟩) hq
    rw [this]; exact hf
  have HRA := Lib.hid hrA
  have HFA := Lib.hid hfA
  have HD : Hid (∀ g6 c6 w6, Appended (w.drew.alloc (.cells #[.string t.w.who, .string t.w.mill, .int .i64 t.w.amount, .int .i64 t.w.ripe, .int .i64 t.came] 89)) B 89 5 g (ts.length + 1) (ts.flatMap Tur.cs ++ t.cs) g6 c6 w6 →
      w6.cell? ⟨q, 0, none⟩ = some (.slice (some ⟨g, 0, none⟩) ts.length cap) ∧ w6.frozen? ⟨q, 0, none⟩ = false ∧ Pushed w B q (ts ++ [t]) (.returned (.tuple #[])) (w6.setCell ⟨q, 0, none⟩ (.slice (some ⟨g6, 0, none⟩) (ts.length + 1) c6))) := by
    rintro g6 c6 w6 ⟨h6, h6g, h6b, h6l, h6x, h6y⟩
    have hsz : q < (w.drew.alloc (.cells #[.string t.w.who, .string t.w.mill, .int .i64 t.w.amount, .int .i64 t.w.ripe, .int .i64 t.came] 89)).heap.size := by simp; exact Nat.lt_succ_of_lt hq
    have hbk := h6g.block q hsz (by intro e; injection e with e; exact hne e)
    have hr6 := (World.cell?_of_block (a := ⟨q, 0, none⟩) hbk).trans HRA.out
    have hf6 := (World.frozen?_of_block (a := ⟨q, 0, none⟩) hbk).trans HFA.out
    refine ⟨hr6, hf6, rfl, ⟨g6, c6, ?_⟩, ?_⟩
    · have hne6 : q ≠ g6 := by
        rcases h6y with e | e
        · rw [e]; exact hne
        · simp at e; omega
      have := Que.refSet (us := ts ++ [t]) (g' := g6) (cap' := c6) (B := B) (w := w6) ⟨_, hr6⟩ hf6 (by rw [List.length_append, List.flatMap_append, List.flatMap_singleton]; exact h6) hqlo (Nat.lt_of_lt_of_le hsz h6g.size) hne6
      rw [List.length_append] at this; exact this
    · exact below_set (bgrown HBA.out (by simp; omega) h6g (by intro z hz; injection hz with hz; omega)) hqlo _
  clear h hrA hfA
  unfold Tur.val
  have hta := assert_turn t
  go_enter Try.func95, Try.ntmps95
  go_wp2_with fail
  go_region_law (
    (refine step_append_some rfl (.tmp 7) (.tmp 10) 85 rfl B 89 i0 (.agg #[.string ByteArray.empty, .string ByteArray.empty, .int .i64 0, .int .i64 0, .int .i64 0]) 5 56 Try.underlying85 HI.out HZ0.out HZ1.out HZ2.out rfl (by decide) g cap ts.length (ts.flatMap Tur.cs) (by simp [Act.eval]) HO.out ⟨w.heap.size, 0, none⟩ 1 1 t.cs (by simp [Act.eval]) rfl HN.out (Tur.one _) (by unfold maxLen; omega) (by omega) ?_; intro g6 c6 w6 h6; obtain ⟨k1, k2, k3⟩ := HD.out g6 c6 w6 h6; have HE := Lib.hid k3; clear k3 h6))
  all_goals
    exact bodyPost_end (v := .tuple #[]) (by simp [results, Try.results95, go_sem]) rfl HE.out
end Go.Proofs.Ytkdelfadmnpkhaa
