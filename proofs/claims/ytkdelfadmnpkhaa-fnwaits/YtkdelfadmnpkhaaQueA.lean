/-
  The program's queue in memory, and its own methods: how many, who is next, two change places, one behind all, the last one out.
-/
import Derived.Test.YtkdelfadmnpkhaaHeap6
import Derived.Test.YtkdelfadmnpkhaaWaitL
import Derived.Test.YtkdelfadmnpkhaaQTail
namespace Go.Proofs.Ytkdelfadmnpkhaa
open Go.ChangeShapes Go.WideShapes Go.ChangeAt Go.RowKit

theorem m_Len {w : World} {q : Nat} {v : Value} (h : w.cell? ⟨q, 0, none⟩ = some v) : (method 229 60 (.pointer (some ⟨q, 0, none⟩)) "Len").run Try.prog w = .ok (41, v) w := by
  have e : (method 229 60 (.pointer (some ⟨q, 0, none⟩)) "Len").run Try.prog w = ((do let x ← load ⟨q, 0, none⟩; pure (41, x)) : Sem (FuncId × Value)).run Try.prog w := by kernel_rfl
  rw [e]
  go_simp

theorem m_Less {w : World} {q : Nat} {v : Value} (h : w.cell? ⟨q, 0, none⟩ = some v) : (method 229 60 (.pointer (some ⟨q, 0, none⟩)) "Less").run Try.prog w = .ok (93, v) w := by
  have e : (method 229 60 (.pointer (some ⟨q, 0, none⟩)) "Less").run Try.prog w = ((do let x ← load ⟨q, 0, none⟩; pure (93, x)) : Sem (FuncId × Value)).run Try.prog w := by kernel_rfl
  rw [e]
  go_simp

theorem m_Swap {w : World} {q : Nat} {v : Value} (h : w.cell? ⟨q, 0, none⟩ = some v) : (method 229 60 (.pointer (some ⟨q, 0, none⟩)) "Swap").run Try.prog w = .ok (96, v) w := by
  have e : (method 229 60 (.pointer (some ⟨q, 0, none⟩)) "Swap").run Try.prog w = ((do let x ← load ⟨q, 0, none⟩; pure (96, x)) : Sem (FuncId × Value)).run Try.prog w := by kernel_rfl
  rw [e]
  go_simp

theorem m_Push {w : World} {q : Nat} : (method 229 60 (.pointer (some ⟨q, 0, none⟩)) "Push").run Try.prog w = .ok (95, .pointer (some ⟨q, 0, none⟩)) w := by kernel_rfl

theorem m_Pop {w : World} {q : Nat} : (method 229 60 (.pointer (some ⟨q, 0, none⟩)) "Pop").run Try.prog w = .ok (94, .pointer (some ⟨q, 0, none⟩)) w := by kernel_rfl

theorem Tur.at {w : World} {g : Nat} {ts : List Tur} (h : Recs Tur.cs w (some ⟨g, 0, none⟩) ts) (k : Nat) (hk : k < ts.length) :
    g < w.heap.size ∧ w.cell? ⟨g, k * 5, none⟩ = some (.string ts[k].w.who) ∧ w.cell? ⟨g, k * 5 + 1, none⟩ = some (.string ts[k].w.mill) ∧ w.cell? ⟨g, k * 5 + 2, none⟩ = some (.int .i64 ts[k].w.amount) ∧ w.cell? ⟨g, k * 5 + 3, none⟩ = some (.int .i64 ts[k].w.ripe) ∧ w.cell? ⟨g, k * 5 + 4, none⟩ = some (.int .i64 ts[k].came) := by
  obtain ⟨b, off, e, hb, hc⟩ := h.cell Tur.len (by omega) k hk
  injection e with e; injection e with e1 e2; subst e1; subst e2
  have h0 := hc 0 _ rfl
  have h1 := hc 1 _ rfl
  have h2 := hc 2 _ rfl
  have h3 := hc 3 _ rfl
  have h4 := hc 4 _ rfl
  simp only [Nat.zero_add, Nat.add_zero] at h0 h1 h2 h3 h4
  exact ⟨hb, h0, h1, h2, h3, h4⟩

set_option maxHeartbeats 1000000 in
set_option maxRecDepth 100000 in
theorem qLen_any (a : Option Addr) (n cap : Nat) (w : World) : Calls Try.prog 41 #[.slice a n cap] w fun e w' => e = .returned (.int .i64 (n : Int)) ∧ w = w' := by
  go_enter Try.func41, Try.ntmps41
  go_wp2
  go_ret
  exact ⟨rfl, rfl⟩

theorem less_is {a b : Tur} (ha : 0 ≤ a.came ∧ a.came < 100) (hb : 0 ≤ b.came ∧ b.came < 100) : decide (orN (cmpN a.w.ripe b.w.ripe) (cmpN a.came b.came) < 0) = decide (a.key < b.key) := by
  unfold orN cmpN; exact less_key ha hb

set_option maxHeartbeats 8000000 in
set_option maxRecDepth 100000 in
theorem qLess_any {w : World} {g i j : Nat} {ts : List Tur} (cap : Nat) (h : Recs Tur.cs w (some ⟨g, 0, none⟩) ts) (hi : i < ts.length) (hj : j < ts.length) (hf : Fine ts) :
    Calls Try.prog 93 #[.slice (some ⟨g, 0, none⟩) ts.length cap, .int .i64 i, .int .i64 j] w fun e w' => e = .returned (.bool (decide (kat ts i < kat ts j))) ∧ Below w.heap.size w w' := by
  obtain ⟨hg, c0, c1, c2, c3, c4⟩ := Tur.at h i hi
  obtain ⟨-, d0, d1, d2, d3, d4⟩ := Tur.at h j hj
  have HN := Lib.hid (show decide (kat ts i < kat ts j) = decide (orN (cmpN ts[i].w.ripe ts[j].w.ripe) (cmpN ts[i].came ts[j].came) < 0) by rw [less_is (hf.at hi) (hf.at hj)]; unfold kat; rw [tatn_eq hi, tatn_eq hj])
  have e0 := Grow.cell c0
  have e1 := Grow.cell c1
  have e2 := Grow.cell c2
  have e3 := Grow.cell c3
  have e4 := Grow.cell c4
  have f0 := Grow.cell d0
  have f1 := Grow.cell d1
  have f2 := Grow.cell d2
  have f3 := Grow.cell d3
  have f4 := Grow.cell d4
  obtain ⟨x, HX⟩ : ∃ x, Hid (cmpN ts[i].w.ripe ts[j].w.ripe = x) := ⟨_, Lib.hid rfl⟩
  obtain ⟨y, HY⟩ : ∃ y, Hid (cmpN ts[i].came ts[j].came = y) := ⟨_, Lib.hid rfl⟩
  rw [HX.out, HY.out] at HN
  clear h hf
  go_enter Try.func93, Try.ntmps93
  go_wp2_with fail
  refine wp_region_grow_tail 22 (by kernel_rfl) (by kernel_rfl) ?_
  simp only [List.take_succ_cons, List.take_zero, List.drop_succ_cons, List.drop_zero]
  repeat (go_big_quiet_step (first | (go_at_call 48; exact grow_call (int_is HX.out) (iByRipe_any ts[i].w ts[j].w _)) | (go_at_call 98; exact grow_same (int_is HY.out) (iCmpI_any _ _ _))))
  refine wpQuiet_nil ?_
  intro gq
  have HB := Lib.hid gq.ok
  go_wp2_with (go_at_call 97; refine (iOrN_any x y (by go_simp) (by go_simp)).mono ?_; rintro e w' ⟨rfl, rfl⟩)
  go_ret
  exact ⟨by rw [HN.out]; rfl, below_trans HB.out (below_new _ _)⟩
end Go.Proofs.Ytkdelfadmnpkhaa
