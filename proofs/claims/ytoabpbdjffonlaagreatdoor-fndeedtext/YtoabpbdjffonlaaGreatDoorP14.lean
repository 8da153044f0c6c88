/-
  Texts joined: QTail, WrdI, DeedG, LayTxt.
-/
import Derived.Test.YtoabpbdjffonlaaGreatDoorP1
import Derived.Test.YtoabpbdjffonlaaGreatDoorP8
import Derived.Test.YtoabpbdjffonlaaGreatDoorP9
import Derived.Test.YtoabpbdjffonlaaGreatDoorP10
import Derived.StillTail
import Derived.Lib.Join
import Derived.Shelf.Strings.SplitCore
import Derived.Shelf.Strings.Search3
import Derived.Shelf.Strings.Count
import Derived.Lib.SplitLaws
import Derived.Shelf.Strings.OnBuilder
import Derived.Shelf.LaysM
namespace Go.Proofs.YtoabpbdjffonlaaGreatDoor
open Go.ChangeShapes Go.WideShapes Go.ChangeAt Go.RowKit

section
variable {P : Program} {ops : Array Oper} {md : Region.Mode} {C : World → Prop} {n : Nat}

/-- f operations of the head are still to come, whichever order is drawn; then L. -/
def ToTail (P : Program) (md : Region.Mode) (ops : Array Oper) (C : World → Prop) (n : Nat) (L : Array Bool → Act → Prop) : Nat → Array Bool → Act → Prop
  | 0, done, a => L done a
  | f + 1, done, a => Region.ready md ops done ≠ [] ∧ ∀ i ∈ Region.ready md ops done, i < n ∧ qOp P ops C i (ToTail P md ops C n L f (done.setIfInBounds i true)) a

theorem any_of_tail {g : Nat} {L : Array Bool → Act → Prop} {Q : Exit → Act → World → Prop} (hL : ∀ done a w, C w → L done a → wpAny P md ops Q g done a w) (f : Nat) :
    ∀ (done : Array Bool) (a : Act) (w : World), C w → ToTail P md ops C n L f done a → wpAny P md ops Q (f + g) done a w := by
  induction f with
  | zero => intro done a w hw h; rw [Nat.zero_add]; exact hL _ _ _ hw h
  | succ f ih =>
    intro done a w hw h
    rw [Nat.add_right_comm]
    exact ⟨fun h0 => absurd h0 h.1, fun i hi => wpOp_of_qOp hw (fun a' w' hw' h' => ih _ a' w' hw' h') (h.2 i hi).2⟩

/-- One that may come up now may be taken first. -/
theorem tail_first {i : Nat} {oi : Oper} {v : Value} {L : Array Bool → Act → Prop} (hi : ops[i]? = some oi) (hsel : ∀ (j : Nat) (o : Oper) cs b, ops[j]? = some o → o.op ≠ .select cs b)
    (hs : Region.sinkB md ops n = true) (hc : Region.chainB md ops n = true) (hn : n < ops.size) (hin : i < n) (hdone : ∀ done a, L done a → ∀ j ∈ Region.ready md ops done, n ≤ j) (f : Nat) :
    ∀ (done : Array Bool) (a : Act), HeadInv md ops n done →
      (∀ j oj, ops[j]? = some oj → j ≠ i → done.getD j true = false → (∀ e ∈ oj.after, Region.binds md e = true → e.on ≠ i) → oi.apart ops oj = true) →
      i ∈ Region.ready md ops done → YieldsIn P ops C oi v a → ToTail P md ops C n L f (done.setIfInBounds i true) (a.put oi.dst v) → ToTail P md ops C n L (f + 1) done a := by
  induction f with
  | zero =>
    intro done a inv _ hr hy H
    refine ⟨List.ne_nil_of_mem hr, fun j hj => ?_⟩
    have hjn : j < n := Nat.lt_of_not_le fun h => tail_waits hs hc hn inv _ i rfl hin (mem_ready.1 hr).1 j h hj
    refine ⟨hjn, ?_⟩
    rcases Nat.decEq j i with hji | rfl
    · have := hdone _ _ H j (ready_mono hj hji)
      omega
    · exact hy.qOp hi H
  | succ f ih =>
    intro done a inv hfree hr hy H
    refine ⟨List.ne_nil_of_mem hr, fun j hj => ?_⟩
    have hun := (mem_ready.1 hr).1
    have hjn : j < n := Nat.lt_of_not_le fun h => tail_waits hs hc hn inv _ i rfl hin hun j h hj
    refine ⟨hjn, ?_⟩
    rcases Nat.decEq j i with hji | rfl
    · obtain ⟨hjun, oj, hoj, hall⟩ := mem_ready.1 hj
      have hnot : ∀ e ∈ oj.after, Region.binds md e = true → e.on ≠ i := by
        intro e he hb heq
        have := hall e he hb
        rw [heq, getD_both hun] at this
        cases this
      refine qOp_mono (fun a' h3 => ih _ a' (inv.set hj hjn) ?_ (ready_mono hr (Ne.symm hji)) h3.1 ?_) (qOp_put hoj (hfree j oj hoj hji hjun hnot) (fun cs b => hsel i oi cs b hi) (fun cs b => hsel j oj cs b hoj) hy (H.2 j (ready_mono hj hji)).2)
      · intro k ok hk hki hku hno
        refine hfree k ok hk hki ?_ hno
        rcases Nat.decEq j k with hjk | rfl
        · rwa [getD_set_ne true hjk] at hku
        · exact hjun
      · rw [Array.setIfInBounds_comm _ _ hji]; exact h3.2
    · exact hy.qOp hi H

theorem tail_lex {g : Nat} {Lq : Act → Prop} (hsel : Region.noSelect ops = true) (hs : Region.sinkB md ops n = true) (hc : Region.chainB md ops n = true) (hn : n < ops.size) :
    ∀ (l : List Oper) (k : Nat) (done : Array Bool) (a : Act), (∀ j, j < l.length → l[j]? = ops[k + j]?) → k + l.length = n → HeadInv md ops n done →
    Region.lexHead md ops g l.length k done = true → wpQuiet P ops C Lq l a → ToTail P md ops C n (fun done' a' => Region.seqB md ops g n done' = true ∧ Lq a') l.length done a := by
  intro l
  induction l with
  | nil =>
    intro k done a _ hk _ hB h
    have hkn : k = n := by simpa using hk
    exact ⟨by rw [← hkn]; simpa [Region.lexHead] using hB, h⟩
  | cons o l ih =>
    intro k done a hl hk inv hB h
    have h0 : ops[k]? = some o := (hl 0 (Nat.succ_pos _)).symm
    simp only [List.length_cons, Region.lexHead, Bool.and_eq_true] at hB
    have hkn : k < n := by rw [List.length_cons] at hk; omega
    have hr : k ∈ Region.ready md ops done := by simpa using hB.1.1
    obtain ⟨v, hy, hK⟩ := yieldsIn_of_qOp (P := P) (C := C) (K := wpQuiet P ops C Lq l) h0 (by unfold qOp; simp only [h0]; exact h)
    refine tail_first h0 (Region.noSelect_spec hsel) hs hc hn hkn (fun done' a' hL => seqB_ready hL.1) _ done a inv (Region.free_spec h0 hB.1.2) hr hy (ih (k + 1) _ _ ?_ ?_ (inv.set hr hkn) hB.2 hK)
    · intro j hj
      have := hl (j + 1) (by rw [List.length_cons]; omega)
      rw [show k + 1 + j = k + (j + 1) by omega, ← this]; rfl
    · rw [List.length_cons] at hk; omega
end

/-- The region's law. -/
theorem wp_region_grow_tail {P : Program} {id : Nat} {Q : Exit → Act → World → Prop} {a : Act} {w : World} {l : List Oper} (n : Nat) (hm : P.follows .mixedOrders = true) (hB : Region.lexTailB .any l.toArray n = true)
    (h : wpQuiet P l.toArray (fun w' => ∃ g : Grow w, w' = g.to) (fun a' => ∀ g : Grow w, wpList P l.toArray Q (l.drop n) a' g.to) (l.take n) a) : (Code.region id l.toArray true).wp P Q a w := by
  simp only [Region.lexTailB, Bool.and_eq_true, decide_eq_true_eq] at hB
  obtain ⟨⟨⟨⟨hsel, hn⟩, hs⟩, hc⟩, hlex⟩ := hB
  have hn' : n < l.length := by simpa using hn
  have htl : (l.take n).length = n := by simp; omega
  have hdl : (l.drop n).length = l.toArray.size - n := by simp
  have inv0 : HeadInv .any l.toArray n (Array.replicate l.toArray.size false) :=
    ⟨by simp, fun j oj _ hl => (by rw [getD_replicate_false] at hl; cases hl), fun t _ ht => getD_in (by simpa using ht) (getD_replicate_false _ _)⟩
  have H := tail_lex (md := .any) (C := fun w' => ∃ g : Grow w, w' = g.to) (g := l.toArray.size - n) hsel hs hc hn (l.take n) 0 _ a (fun j hj => by
    have hj' : j < n := by rw [htl] at hj; exact hj
    simp [hj']) (by simpa using htl) inv0 (by rw [htl]; exact hlex) h
  refine wp_region_any hm ?_
  have := any_of_tail (Q := Q) (g := l.toArray.size - n) (fun done a' w' hw hL => by
    obtain ⟨gr, rfl⟩ := hw
    have := wpAny_of_seq (md := .any) (Q' := Q) (l.drop n) n done a' gr.to (fun j => by simp [List.getElem?_drop]) (by rw [hdl]; exact hL.1) (hL.2 gr)
    rwa [hdl] at this) _ _ _ { w with drawn := w.drawn + 1 } ⟨⟨{ w with drawn := w.drawn + 1 }, below_draws (Below.refl _ _) 1⟩, rfl⟩ H
  rw [htl, show n + (l.toArray.size - n) = l.toArray.size by omega] at this
  exact this
end Go.Proofs.YtoabpbdjffonlaaGreatDoor
namespace Go.Proofs.YtoabpbdjffonlaaGreatDoor
open Go.ChangeShapes Go.WideShapes Go.ChangeAt Go.RowKit

/-- A block of the call's own with these words. -/
def WordsL (ws : List ByteArray) (w : World) (e : Ending) (w' : World) : Prop :=
  ∃ g, e = .returned (.slice (some ⟨g, 0, none⟩) ws.length ws.length) ∧ g < w'.heap.size ∧ (∀ k u, ws[k]? = some u → w'.cell? ⟨g, 0 + k, none⟩ = some (.string u)) ∧ Below w.heap.size w w'
theorem wordsL_end {w W : World} (ws : List ByteArray) (hb : Below w.heap.size w W) : WordsL ws w (.returned (.slice (some ⟨W.heap.size, 0, none⟩) ws.length ws.length)) (W.alloc (.cells (ws.map Value.string).toArray 9)) := by
  refine ⟨_, rfl, by show _ < (W.heap.push _).size; rw [Array.size_push]; omega, fun k u hk => ?_, below_trans hb (below_new _ _)⟩
  rw [Nat.zero_add, World.cell?_alloc_mark, List.getElem?_toArray, List.getElem?_map, hk]; rfl
theorem wordsL_end1 {w W : World} (ws : List ByteArray) (o : Obj) (hb : Below w.heap.size w W) : WordsL ws w (.returned (.slice (some ⟨W.heap.size + 1, 0, none⟩) ws.length ws.length)) ((W.alloc o).alloc (.cells (ws.map Value.string).toArray 9)) := by
  have e : (W.alloc o).heap.size = W.heap.size + 1 := by show (W.heap.push o).size = _; rw [Array.size_push]
  rw [← e]; exact wordsL_end ws (below_trans hb (below_new _ _))
theorem str_is {a b : ByteArray} (h : a = b) : Value.string a = .string b := by rw [h]
theorem wlist_1 (n : Int) (who mill to : ByteArray) : wordsOf ⟨1, who, mill, to, n⟩ = [⟨#[111, 112, 101, 110]⟩, mill, itoaB n] := by simp [wordsOf, tellsS, wordsS]
theorem iwords_1 (n : Int) (who mill to : ByteArray) (w : World) (h0 : -9223372036854775808 ≤ n) (h1 : n ≤ 9223372036854775807) (hg : Glob w) :
    Calls Tryz.prog 19 #[.agg #[.int .i64 1, .string who, .string mill, .string to, .int .i64 n]] w (WordsL (wordsOf ⟨1, who, mill, to, n⟩) w) := by
  rw [wlist_1]
  have HG := Lib.hid hg
  have HN0 := Lib.hid h0
  have HN1 := Lib.hid h1
  have B0 := Lib.hid (below_new w (.cells #[.int .i64 1, .string who, .string mill, .string to, .int .i64 n] 25))
  clear hg h0 h1
  go_enter Tryz.func19, Tryz.ntmps19
  go_wp2_with fail
  refine (told_1 n who mill to _).mono ?_
  rintro e w1 ⟨rfl, hb1⟩
  have B1 := Lib.hid (below_trans B0.out hb1)
  clear hb1
  have t_ofWho := as_millN_ofWho
  have t_ofMill := as_millN_ofMill
  have t_millN := as_millN_millN
  have t_whoMillN := as_millN_whoMillN
  have t_whoMillToN := as_millN_whoMillToN
  have t_whoToN := as_millN_whoToN
  have B2 := Lib.hid (below_trans B1.out (below_new w1 (.cells #[.string mill, .int .i64 n] 77)))
  obtain ⟨W2, hW2⟩ : ∃ W2, w1.alloc (.cells #[.string mill, .int .i64 n] 77) = W2 := ⟨_, rfl⟩
  have c0 : W2.cell? ⟨w1.heap.size, 0, none⟩ = some (.string mill) := by rw [← hW2, World.cell?_alloc_mark]; rfl
  have c1 : W2.cell? ⟨w1.heap.size, 1, none⟩ = some (.int .i64 n) := by rw [← hW2, World.cell?_alloc_mark]; rfl
  have HW := Lib.hid hW2
  rw [hW2] at B2
  clear hW2
  have e0 := Grow.cell c0
  have e1 := Grow.cell c1
  go_wp2_with fail
  rw [HW.out]
  clear c0 c1
  refine wp_region_grow_tail 6 (by kernel_rfl) (by kernel_rfl) ?_
  simp only [List.take_succ_cons, List.take_zero, List.drop_succ_cons, List.drop_zero]
  repeat (go_big_quiet_step (first | (go_at_call 42; exact grow_call rfl (digits_any n HN0.out HN1.out _ (HG.out.below (below_trans B2.out (Grow.ok _)))))))
  refine wpQuiet_nil ?_
  intro gq
  have HB := Lib.hid (below_trans B2.out gq.ok)
  go_wp2_with fail
  go_ret
  exact wordsL_end [⟨#[111, 112, 101, 110]⟩, mill, itoaB n] HB.out
theorem wlist_2 (n : Int) (who mill to : ByteArray) : wordsOf ⟨2, who, mill, to, n⟩ = [⟨#[106, 111, 105, 110]⟩, who] := by simp [wordsOf, tellsS, wordsS]
theorem iwords_2 (n : Int) (who mill to : ByteArray) (w : World) (h0 : -9223372036854775808 ≤ n) (h1 : n ≤ 9223372036854775807) (hg : Glob w) :
    Calls Tryz.prog 19 #[.agg #[.int .i64 2, .string who, .string mill, .string to, .int .i64 n]] w (WordsL (wordsOf ⟨2, who, mill, to, n⟩) w) := by
  rw [wlist_2]
  have HG := Lib.hid hg
  have HN0 := Lib.hid h0
  have HN1 := Lib.hid h1
  have B0 := Lib.hid (below_new w (.cells #[.int .i64 2, .string who, .string mill, .string to, .int .i64 n] 25))
  clear hg h0 h1
  go_enter Tryz.func19, Tryz.ntmps19
  go_wp2_with fail
  refine (told_2 n who mill to _).mono ?_
  rintro e w1 ⟨rfl, hb1⟩
  have B1 := Lib.hid (below_trans B0.out hb1)
  clear hb1
  have t_ofWho := as_ofWho_ofWho
  have t_ofMill := as_ofWho_ofMill
  have t_millN := as_ofWho_millN
  have t_whoMillN := as_ofWho_whoMillN
  have t_whoMillToN := as_ofWho_whoMillToN
  have t_whoToN := as_ofWho_whoToN
  go_wp2
  go_ret
  exact wordsL_end1 [⟨#[106, 111, 105, 110]⟩, who] _ B1.out
theorem wlist_3 (n : Int) (who mill to : ByteArray) : wordsOf ⟨3, who, mill, to, n⟩ = [⟨#[99, 117, 116]⟩, mill, itoaB n] := by simp [wordsOf, tellsS, wordsS]
theorem iwords_3 (n : Int) (who mill to : ByteArray) (w : World) (h0 : -9223372036854775808 ≤ n) (h1 : n ≤ 9223372036854775807) (hg : Glob w) :
    Calls Tryz.prog 19 #[.agg #[.int .i64 3, .string who, .string mill, .string to, .int .i64 n]] w (WordsL (wordsOf ⟨3, who, mill, to, n⟩) w) := by
  rw [wlist_3]
  have HG := Lib.hid hg
  have HN0 := Lib.hid h0
  have HN1 := Lib.hid h1
  have B0 := Lib.hid (below_new w (.cells #[.int .i64 3, .string who, .string mill, .string to, .int .i64 n] 25))
  clear hg h0 h1
  go_enter Tryz.func19, Tryz.ntmps19
  go_wp2_with fail
  refine (told_3 n who mill to _).mono ?_
  rintro e w1 ⟨rfl, hb1⟩
  have B1 := Lib.hid (below_trans B0.out hb1)
  clear hb1
  have t_ofWho := as_millN_ofWho
  have t_ofMill := as_millN_ofMill
  have t_millN := as_millN_millN
  have t_whoMillN := as_millN_whoMillN
  have t_whoMillToN := as_millN_whoMillToN
  have t_whoToN := as_millN_whoToN
  have B2 := Lib.hid (below_trans B1.out (below_new w1 (.cells #[.string mill, .int .i64 n] 77)))
  obtain ⟨W2, hW2⟩ : ∃ W2, w1.alloc (.cells #[.string mill, .int .i64 n] 77) = W2 := ⟨_, rfl⟩
  have c0 : W2.cell? ⟨w1.heap.size, 0, none⟩ = some (.string mill) := by rw [← hW2, World.cell?_alloc_mark]; rfl
  have c1 : W2.cell? ⟨w1.heap.size, 1, none⟩ = some (.int .i64 n) := by rw [← hW2, World.cell?_alloc_mark]; rfl
  have HW := Lib.hid hW2
  rw [hW2] at B2
  clear hW2
  have e0 := Grow.cell c0
  have e1 := Grow.cell c1
  go_wp2_with fail
  rw [HW.out]
  clear c0 c1
  refine wp_region_grow_tail 6 (by kernel_rfl) (by kernel_rfl) ?_
  simp only [List.take_succ_cons, List.take_zero, List.drop_succ_cons, List.drop_zero]
  repeat (go_big_quiet_step (first | (go_at_call 42; exact grow_call rfl (digits_any n HN0.out HN1.out _ (HG.out.below (below_trans B2.out (Grow.ok _)))))))
  refine wpQuiet_nil ?_
  intro gq
  have HB := Lib.hid (below_trans B2.out gq.ok)
  go_wp2_with fail
  go_ret
  exact wordsL_end [⟨#[99, 117, 116]⟩, mill, itoaB n] HB.out
theorem wlist_4 (n : Int) (who mill to : ByteArray) : wordsOf ⟨4, who, mill, to, n⟩ = [⟨#[108, 101, 110, 100]⟩, who, mill, itoaB n] := by simp [wordsOf, tellsS, wordsS]
theorem iwords_4 (n : Int) (who mill to : ByteArray) (w : World) (h0 : -9223372036854775808 ≤ n) (h1 : n ≤ 9223372036854775807) (hg : Glob w) :
    Calls Tryz.prog 19 #[.agg #[.int .i64 4, .string who, .string mill, .string to, .int .i64 n]] w (WordsL (wordsOf ⟨4, who, mill, to, n⟩) w) := by
  rw [wlist_4]
  have HG := Lib.hid hg
  have HN0 := Lib.hid h0
  have HN1 := Lib.hid h1
  have B0 := Lib.hid (below_new w (.cells #[.int .i64 4, .string who, .string mill, .string to, .int .i64 n] 25))
  clear hg h0 h1
  go_enter Tryz.func19, Tryz.ntmps19
  go_wp2_with fail
  refine (told_4 n who mill to _).mono ?_
  rintro e w1 ⟨rfl, hb1⟩
  have B1 := Lib.hid (below_trans B0.out hb1)
  clear hb1
  have t_ofWho := as_whoMillN_ofWho
  have t_ofMill := as_whoMillN_ofMill
  have t_millN := as_whoMillN_millN
  have t_whoMillN := as_whoMillN_whoMillN
  have t_whoMillToN := as_whoMillN_whoMillToN
  have t_whoToN := as_whoMillN_whoToN
  have B2 := Lib.hid (below_trans B1.out (below_new w1 (.cells #[.string who, .string mill, .int .i64 n] 79)))
  obtain ⟨W2, hW2⟩ : ∃ W2, w1.alloc (.cells #[.string who, .string mill, .int .i64 n] 79) = W2 := ⟨_, rfl⟩
  have c0 : W2.cell? ⟨w1.heap.size, 0, none⟩ = some (.string who) := by rw [← hW2, World.cell?_alloc_mark]; rfl
  have c1 : W2.cell? ⟨w1.heap.size, 1, none⟩ = some (.string mill) := by rw [← hW2, World.cell?_alloc_mark]; rfl
  have c2 : W2.cell? ⟨w1.heap.size, 2, none⟩ = some (.int .i64 n) := by rw [← hW2, World.cell?_alloc_mark]; rfl
  have HW := Lib.hid hW2
  rw [hW2] at B2
  clear hW2
  have e0 := Grow.cell c0
  have e1 := Grow.cell c1
  have e2 := Grow.cell c2
  go_wp2_with fail
  rw [HW.out]
  clear c0 c1 c2
  refine wp_region_grow_tail 8 (by kernel_rfl) (by kernel_rfl) ?_
  simp only [List.take_succ_cons, List.take_zero, List.drop_succ_cons, List.drop_zero]
  repeat (go_big_quiet_step (first | (go_at_call 42; exact grow_call rfl (digits_any n HN0.out HN1.out _ (HG.out.below (below_trans B2.out (Grow.ok _)))))))
  refine wpQuiet_nil ?_
  intro gq
  have HB := Lib.hid (below_trans B2.out gq.ok)
  go_wp2_with fail
  go_ret
  exact wordsL_end [⟨#[108, 101, 110, 100]⟩, who, mill, itoaB n] HB.out
theorem wlist_5 (n : Int) (who mill to : ByteArray) : wordsOf ⟨5, who, mill, to, n⟩ = [⟨#[108, 111, 111, 115, 101, 110]⟩, who, mill, itoaB n] := by simp [wordsOf, tellsS, wordsS]
theorem iwords_5 (n : Int) (who mill to : ByteArray) (w : World) (h0 : -9223372036854775808 ≤ n) (h1 : n ≤ 9223372036854775807) (hg : Glob w) :
    Calls Tryz.prog 19 #[.agg #[.int .i64 5, .string who, .string mill, .string to, .int .i64 n]] w (WordsL (wordsOf ⟨5, who, mill, to, n⟩) w) := by
  rw [wlist_5]
  have HG := Lib.hid hg
  have HN0 := Lib.hid h0
  have HN1 := Lib.hid h1
  have B0 := Lib.hid (below_new w (.cells #[.int .i64 5, .string who, .string mill, .string to, .int .i64 n] 25))
  clear hg h0 h1
  go_enter Tryz.func19, Tryz.ntmps19
  go_wp2_with fail
  refine (told_5 n who mill to _).mono ?_
  rintro e w1 ⟨rfl, hb1⟩
  have B1 := Lib.hid (below_trans B0.out hb1)
  clear hb1
  have t_ofWho := as_whoMillN_ofWho
  have t_ofMill := as_whoMillN_ofMill
  have t_millN := as_whoMillN_millN
  have t_whoMillN := as_whoMillN_whoMillN
  have t_whoMillToN := as_whoMillN_whoMillToN
  have t_whoToN := as_whoMillN_whoToN
  have B2 := Lib.hid (below_trans B1.out (below_new w1 (.cells #[.string who, .string mill, .int .i64 n] 79)))
  obtain ⟨W2, hW2⟩ : ∃ W2, w1.alloc (.cells #[.string who, .string mill, .int .i64 n] 79) = W2 := ⟨_, rfl⟩
  have c0 : W2.cell? ⟨w1.heap.size, 0, none⟩ = some (.string who) := by rw [← hW2, World.cell?_alloc_mark]; rfl
  have c1 : W2.cell? ⟨w1.heap.size, 1, none⟩ = some (.string mill) := by rw [← hW2, World.cell?_alloc_mark]; rfl
  have c2 : W2.cell? ⟨w1.heap.size, 2, none⟩ = some (.int .i64 n) := by rw [← hW2, World.cell?_alloc_mark]; rfl
  have HW := Lib.hid hW2
  rw [hW2] at B2
  clear hW2
  have e0 := Grow.cell c0
  have e1 := Grow.cell c1
  have e2 := Grow.cell c2
  go_wp2_with fail
  rw [HW.out]
  clear c0 c1 c2
  refine wp_region_grow_tail 8 (by kernel_rfl) (by kernel_rfl) ?_
  simp only [List.take_succ_cons, List.take_zero, List.drop_succ_cons, List.drop_zero]
  repeat (go_big_quiet_step (first | (go_at_call 42; exact grow_call rfl (digits_any n HN0.out HN1.out _ (HG.out.below (below_trans B2.out (Grow.ok _)))))))
  refine wpQuiet_nil ?_
  intro gq
  have HB := Lib.hid (below_trans B2.out gq.ok)
  go_wp2_with fail
  go_ret
  exact wordsL_end [⟨#[108, 111, 111, 115, 101, 110]⟩, who, mill, itoaB n] HB.out
theorem wlist_6 (n : Int) (who mill to : ByteArray) : wordsOf ⟨6, who, mill, to, n⟩ = [⟨#[115, 104, 105, 102, 116]⟩, who, mill, to, itoaB n] := by simp [wordsOf, tellsS, wordsS]
theorem iwords_6 (n : Int) (who mill to : ByteArray) (w : World) (h0 : -9223372036854775808 ≤ n) (h1 : n ≤ 9223372036854775807) (hg : Glob w) :
    Calls Tryz.prog 19 #[.agg #[.int .i64 6, .string who, .string mill, .string to, .int .i64 n]] w (WordsL (wordsOf ⟨6, who, mill, to, n⟩) w) := by
  rw [wlist_6]
  have HG := Lib.hid hg
  have HN0 := Lib.hid h0
  have HN1 := Lib.hid h1
  have B0 := Lib.hid (below_new w (.cells #[.int .i64 6, .string who, .string mill, .string to, .int .i64 n] 25))
  clear hg h0 h1
  go_enter Tryz.func19, Tryz.ntmps19
  go_wp2_with fail
  refine (told_6 n who mill to _).mono ?_
  rintro e w1 ⟨rfl, hb1⟩
  have B1 := Lib.hid (below_trans B0.out hb1)
  clear hb1
  have t_ofWho := as_whoMillToN_ofWho
  have t_ofMill := as_whoMillToN_ofMill
  have t_millN := as_whoMillToN_millN
  have t_whoMillN := as_whoMillToN_whoMillN
  have t_whoMillToN := as_whoMillToN_whoMillToN
  have t_whoToN := as_whoMillToN_whoToN
  have B2 := Lib.hid (below_trans B1.out (below_new w1 (.cells #[.string who, .string mill, .string to, .int .i64 n] 81)))
  obtain ⟨W2, hW2⟩ : ∃ W2, w1.alloc (.cells #[.string who, .string mill, .string to, .int .i64 n] 81) = W2 := ⟨_, rfl⟩
  have c0 : W2.cell? ⟨w1.heap.size, 0, none⟩ = some (.string who) := by rw [← hW2, World.cell?_alloc_mark]; rfl
  have c1 : W2.cell? ⟨w1.heap.size, 1, none⟩ = some (.string mill) := by rw [← hW2, World.cell?_alloc_mark]; rfl
  have c2 : W2.cell? ⟨w1.heap.size, 2, none⟩ = some (.string to) := by rw [← hW2, World.cell?_alloc_mark]; rfl
  have c3 : W2.cell? ⟨w1.heap.size, 3, none⟩ = some (.int .i64 n) := by rw [← hW2, World.cell?_alloc_mark]; rfl
  have HW := Lib.hid hW2
  rw [hW2] at B2
  clear hW2
  have e0 := Grow.cell c0
  have e1 := Grow.cell c1
  have e2 := Grow.cell c2
  have e3 := Grow.cell c3
  go_wp2_with fail
  rw [HW.out]
  clear c0 c1 c2 c3
  refine wp_region_grow_tail 10 (by kernel_rfl) (by kernel_rfl) ?_
  simp only [List.take_succ_cons, List.take_zero, List.drop_succ_cons, List.drop_zero]
  repeat (go_big_quiet_step (first | (go_at_call 42; exact grow_call rfl (digits_any n HN0.out HN1.out _ (HG.out.below (below_trans B2.out (Grow.ok _)))))))
  refine wpQuiet_nil ?_
  intro gq
  have HB := Lib.hid (below_trans B2.out gq.ok)
  go_wp2_with fail
  go_ret
  exact wordsL_end [⟨#[115, 104, 105, 102, 116]⟩, who, mill, to, itoaB n] HB.out
theorem wlist_7 (n : Int) (who mill to : ByteArray) : wordsOf ⟨7, who, mill, to, n⟩ = [⟨#[102, 105, 110, 101]⟩, mill, itoaB n] := by simp [wordsOf, tellsS, wordsS]
theorem iwords_7 (n : Int) (who mill to : ByteArray) (w : World) (h0 : -9223372036854775808 ≤ n) (h1 : n ≤ 9223372036854775807) (hg : Glob w) :
    Calls Tryz.prog 19 #[.agg #[.int .i64 7, .string who, .string mill, .string to, .int .i64 n]] w (WordsL (wordsOf ⟨7, who, mill, to, n⟩) w) := by
  rw [wlist_7]
  have HG := Lib.hid hg
  have HN0 := Lib.hid h0
  have HN1 := Lib.hid h1
  have B0 := Lib.hid (below_new w (.cells #[.int .i64 7, .string who, .string mill, .string to, .int .i64 n] 25))
  clear hg h0 h1
  go_enter Tryz.func19, Tryz.ntmps19
  go_wp2_with fail
  refine (told_7 n who mill to _).mono ?_
  rintro e w1 ⟨rfl, hb1⟩
  have B1 := Lib.hid (below_trans B0.out hb1)
  clear hb1
  have t_ofWho := as_millN_ofWho
  have t_ofMill := as_millN_ofMill
  have t_millN := as_millN_millN
  have t_whoMillN := as_millN_whoMillN
  have t_whoMillToN := as_millN_whoMillToN
  have t_whoToN := as_millN_whoToN
  have B2 := Lib.hid (below_trans B1.out (below_new w1 (.cells #[.string mill, .int .i64 n] 77)))
  obtain ⟨W2, hW2⟩ : ∃ W2, w1.alloc (.cells #[.string mill, .int .i64 n] 77) = W2 := ⟨_, rfl⟩
  have c0 : W2.cell? ⟨w1.heap.size, 0, none⟩ = some (.string mill) := by rw [← hW2, World.cell?_alloc_mark]; rfl
  have c1 : W2.cell? ⟨w1.heap.size, 1, none⟩ = some (.int .i64 n) := by rw [← hW2, World.cell?_alloc_mark]; rfl
  have HW := Lib.hid hW2
  rw [hW2] at B2
  clear hW2
  have e0 := Grow.cell c0
  have e1 := Grow.cell c1
  go_wp2_with fail
  rw [HW.out]
  clear c0 c1
  refine wp_region_grow_tail 6 (by kernel_rfl) (by kernel_rfl) ?_
  simp only [List.take_succ_cons, List.take_zero, List.drop_succ_cons, List.drop_zero]
  repeat (go_big_quiet_step (first | (go_at_call 42; exact grow_call rfl (digits_any n HN0.out HN1.out _ (HG.out.below (below_trans B2.out (Grow.ok _)))))))
  refine wpQuiet_nil ?_
  intro gq
  have HB := Lib.hid (below_trans B2.out gq.ok)
  go_wp2_with fail
  go_ret
  exact wordsL_end [⟨#[102, 105, 110, 101]⟩, mill, itoaB n] HB.out
theorem wlist_8 (n : Int) (who mill to : ByteArray) : wordsOf ⟨8, who, mill, to, n⟩ = [⟨#[109, 101, 110, 100]⟩, mill] := by simp [wordsOf, tellsS, wordsS]
theorem iwords_8 (n : Int) (who mill to : ByteArray) (w : World) (h0 : -9223372036854775808 ≤ n) (h1 : n ≤ 9223372036854775807) (hg : Glob w) :
    Calls Tryz.prog 19 #[.agg #[.int .i64 8, .string who, .string mill, .string to, .int .i64 n]] w (WordsL (wordsOf ⟨8, who, mill, to, n⟩) w) := by
  rw [wlist_8]
  have HG := Lib.hid hg
  have HN0 := Lib.hid h0
  have HN1 := Lib.hid h1
  have B0 := Lib.hid (below_new w (.cells #[.int .i64 8, .string who, .string mill, .string to, .int .i64 n] 25))
  clear hg h0 h1
  go_enter Tryz.func19, Tryz.ntmps19
  go_wp2_with fail
  refine (told_8 n who mill to _).mono ?_
  rintro e w1 ⟨rfl, hb1⟩
  have B1 := Lib.hid (below_trans B0.out hb1)
  clear hb1
  have t_ofWho := as_ofMill_ofWho
  have t_ofMill := as_ofMill_ofMill
  have t_millN := as_ofMill_millN
  have t_whoMillN := as_ofMill_whoMillN
  have t_whoMillToN := as_ofMill_whoMillToN
  have t_whoToN := as_ofMill_whoToN
  go_wp2
  go_ret
  exact wordsL_end1 [⟨#[109, 101, 110, 100]⟩, mill] _ B1.out
theorem wlist_9 (n : Int) (who mill to : ByteArray) : wordsOf ⟨9, who, mill, to, n⟩ = [⟨#[101, 97, 114, 110]⟩, mill, itoaB n] := by simp [wordsOf, tellsS, wordsS]
theorem iwords_9 (n : Int) (who mill to : ByteArray) (w : World) (h0 : -9223372036854775808 ≤ n) (h1 : n ≤ 9223372036854775807) (hg : Glob w) :
    Calls Tryz.prog 19 #[.agg #[.int .i64 9, .string who, .string mill, .string to, .int .i64 n]] w (WordsL (wordsOf ⟨9, who, mill, to, n⟩) w) := by
  rw [wlist_9]
  have HG := Lib.hid hg
  have HN0 := Lib.hid h0
  have HN1 := Lib.hid h1
  have B0 := Lib.hid (below_new w (.cells #[.int .i64 9, .string who, .string mill, .string to, .int .i64 n] 25))
  clear hg h0 h1
  go_enter Tryz.func19, Tryz.ntmps19
  go_wp2_with fail
  refine (told_9 n who mill to _).mono ?_
  rintro e w1 ⟨rfl, hb1⟩
  have B1 := Lib.hid (below_trans B0.out hb1)
  clear hb1
  have t_ofWho := as_millN_ofWho
  have t_ofMill := as_millN_ofMill
  have t_millN := as_millN_millN
  have t_whoMillN := as_millN_whoMillN
  have t_whoMillToN := as_millN_whoMillToN
  have t_whoToN := as_millN_whoToN
  have B2 := Lib.hid (below_trans B1.out (below_new w1 (.cells #[.string mill, .int .i64 n] 77)))
  obtain ⟨W2, hW2⟩ : ∃ W2, w1.alloc (.cells #[.string mill, .int .i64 n] 77) = W2 := ⟨_, rfl⟩
  have c0 : W2.cell? ⟨w1.heap.size, 0, none⟩ = some (.string mill) := by rw [← hW2, World.cell?_alloc_mark]; rfl
  have c1 : W2.cell? ⟨w1.heap.size, 1, none⟩ = some (.int .i64 n) := by rw [← hW2, World.cell?_alloc_mark]; rfl
  have HW := Lib.hid hW2
  rw [hW2] at B2
  clear hW2
  have e0 := Grow.cell c0
  have e1 := Grow.cell c1
  go_wp2_with fail
  rw [HW.out]
  clear c0 c1
  refine wp_region_grow_tail 6 (by kernel_rfl) (by kernel_rfl) ?_
  simp only [List.take_succ_cons, List.take_zero, List.drop_succ_cons, List.drop_zero]
  repeat (go_big_quiet_step (first | (go_at_call 42; exact grow_call rfl (digits_any n HN0.out HN1.out _ (HG.out.below (below_trans B2.out (Grow.ok _)))))))
  refine wpQuiet_nil ?_
  intro gq
  have HB := Lib.hid (below_trans B2.out gq.ok)
  go_wp2_with fail
  go_ret
  exact wordsL_end [⟨#[101, 97, 114, 110]⟩, mill, itoaB n] HB.out
theorem wlist_10 (n : Int) (who mill to : ByteArray) : wordsOf ⟨10, who, mill, to, n⟩ = [⟨#[103, 105, 118, 101]⟩, who, to, itoaB n] := by simp [wordsOf, tellsS, wordsS]
theorem iwords_10 (n : Int) (who mill to : ByteArray) (w : World) (h0 : -9223372036854775808 ≤ n) (h1 : n ≤ 9223372036854775807) (hg : Glob w) :
    Calls Tryz.prog 19 #[.agg #[.int .i64 10, .string who, .string mill, .string to, .int .i64 n]] w (WordsL (wordsOf ⟨10, who, mill, to, n⟩) w) := by
  rw [wlist_10]
  have HG := Lib.hid hg
  have HN0 := Lib.hid h0
  have HN1 := Lib.hid h1
  have B0 := Lib.hid (below_new w (.cells #[.int .i64 10, .string who, .string mill, .string to, .int .i64 n] 25))
  clear hg h0 h1
  go_enter Tryz.func19, Tryz.ntmps19
  go_wp2_with fail
  refine (told_10 n who mill to _).mono ?_
  rintro e w1 ⟨rfl, hb1⟩
  have B1 := Lib.hid (below_trans B0.out hb1)
  clear hb1
  have t_ofWho := as_whoToN_ofWho
  have t_ofMill := as_whoToN_ofMill
  have t_millN := as_whoToN_millN
  have t_whoMillN := as_whoToN_whoMillN
  have t_whoMillToN := as_whoToN_whoMillToN
  have t_whoToN := as_whoToN_whoToN
  have B2 := Lib.hid (below_trans B1.out (below_new w1 (.cells #[.string who, .string to, .int .i64 n] 83)))
  obtain ⟨W2, hW2⟩ : ∃ W2, w1.alloc (.cells #[.string who, .string to, .int .i64 n] 83) = W2 := ⟨_, rfl⟩
  have c0 : W2.cell? ⟨w1.heap.size, 0, none⟩ = some (.string who) := by rw [← hW2, World.cell?_alloc_mark]; rfl
  have c1 : W2.cell? ⟨w1.heap.size, 1, none⟩ = some (.string to) := by rw [← hW2, World.cell?_alloc_mark]; rfl
  have c2 : W2.cell? ⟨w1.heap.size, 2, none⟩ = some (.int .i64 n) := by rw [← hW2, World.cell?_alloc_mark]; rfl
  have HW := Lib.hid hW2
  rw [hW2] at B2
  clear hW2
  have e0 := Grow.cell c0
  have e1 := Grow.cell c1
  have e2 := Grow.cell c2
  go_wp2_with fail
  rw [HW.out]
  clear c0 c1 c2
  refine wp_region_grow_tail 8 (by kernel_rfl) (by kernel_rfl) ?_
  simp only [List.take_succ_cons, List.take_zero, List.drop_succ_cons, List.drop_zero]
  repeat (go_big_quiet_step (first | (go_at_call 42; exact grow_call rfl (digits_any n HN0.out HN1.out _ (HG.out.below (below_trans B2.out (Grow.ok _)))))))
  refine wpQuiet_nil ?_
  intro gq
  have HB := Lib.hid (below_trans B2.out gq.ok)
  go_wp2_with fail
  go_ret
  exact wordsL_end [⟨#[103, 105, 118, 101]⟩, who, to, itoaB n] HB.out
theorem wlist_11 (n : Int) (who mill to : ByteArray) : wordsOf ⟨11, who, mill, to, n⟩ = [⟨#[115, 101, 97, 115, 111, 110]⟩] := by simp [wordsOf, tellsS, wordsS]
theorem iwords_11 (n : Int) (who mill to : ByteArray) (w : World) (h0 : -9223372036854775808 ≤ n) (h1 : n ≤ 9223372036854775807) (hg : Glob w) :
    Calls Tryz.prog 19 #[.agg #[.int .i64 11, .string who, .string mill, .string to, .int .i64 n]] w (WordsL (wordsOf ⟨11, who, mill, to, n⟩) w) := by
  rw [wlist_11]
  have HG := Lib.hid hg
  have HN0 := Lib.hid h0
  have HN1 := Lib.hid h1
  have B0 := Lib.hid (below_new w (.cells #[.int .i64 11, .string who, .string mill, .string to, .int .i64 n] 25))
  clear hg h0 h1
  go_enter Tryz.func19, Tryz.ntmps19
  go_wp2_with fail
  refine (told_11 n who mill to _).mono ?_
  rintro e w1 ⟨rfl, hb1⟩
  have B1 := Lib.hid (below_trans B0.out hb1)
  clear hb1
  have t_ofWho := as_bare_ofWho
  have t_ofMill := as_bare_ofMill
  have t_millN := as_bare_millN
  have t_whoMillN := as_bare_whoMillN
  have t_whoMillToN := as_bare_whoMillToN
  have t_whoToN := as_bare_whoToN
  go_wp2
  go_ret
  exact wordsL_end [⟨#[115, 101, 97, 115, 111, 110]⟩] B1.out
theorem iwords_no {k : Int} (h : k < 1 ∨ 11 < k) (n : Int) (who mill to : ByteArray) (w : World) :
    Calls Tryz.prog 19 #[.agg #[.int .i64 k, .string who, .string mill, .string to, .int .i64 n]] w (WordsL [⟨#[]⟩] w) := by
  have H := Lib.hid h
  have B0 := Lib.hid (below_new w (.cells #[.int .i64 k, .string who, .string mill, .string to, .int .i64 n] 25))
  clear h
  go_enter Tryz.func19, Tryz.ntmps19
  go_wp2_with fail
  refine (told_no H.out n who mill to _).mono ?_
  rintro e w1 ⟨rfl, hb1⟩
  have B1 := Lib.hid (below_trans B0.out hb1)
  clear hb1
  have t_ofWho := as_nil_ofWho
  have t_ofMill := as_nil_ofMill
  have t_millN := as_nil_millN
  have t_whoMillN := as_nil_whoMillN
  have t_whoMillToN := as_nil_whoMillToN
  have t_whoToN := as_nil_whoToN
  go_wp2
  go_ret
  exact wordsL_end [⟨#[]⟩] B1.out
end Go.Proofs.YtoabpbdjffonlaaGreatDoor
namespace Go.Proofs.YtoabpbdjffonlaaGreatDoor
open Go.Lib

/-! Words of a deed -/
/-- What the program writes of a deed, right or not. -/
def wordsP (d : Dee) : List ByteArray := if 1 ≤ d.kind ∧ d.kind ≤ 11 then wordsOf d else [⟨#[]⟩]
theorem wordsP_in {d : Dee} (h1 : 1 ≤ d.kind) (h2 : d.kind ≤ 11) : wordsP d = wordsOf d := if_pos ⟨h1, h2⟩
theorem wordsP_out {d : Dee} (h : d.kind < 1 ∨ 11 < d.kind) : wordsP d = [⟨#[]⟩] := if_neg (by omega)
theorem wordsP_cons (d : Dee) : ∃ x0 rest, wordsP d = x0 :: rest := by
  unfold wordsP
  split
  · exact ⟨_, _, rfl⟩
  · exact ⟨_, _, rfl⟩
theorem split_show {d : Dee} (h : deedB d = true) : splitB1 32 (showB d) = wordsOf d :=
  split_of (b := 32) (s := showB d) (x := wordsS.getD (d.kind - 1).toNat ByteArray.empty) (xs := (tellsS d.kind).data.toList.map fun c => if c = 87 then d.who else if c = 77 then d.mill else if c = 84 then d.to else itoaB d.n)
    (fun y hy => words_no h (by decide) (by decide) y hy) (show_join h)
theorem readW_right {w : List ByteArray} {k : Int} {d : Dee} (h : readW w k = some d) : deedB d = true := by
  rw [readW] at h
  split at h
  · cases h
  split at h
  · cases h
  split at h
  · rename_i hg
    have e := Option.some.inj h
    rw [← e]; exact hg.2
  · cases h
/-- A right deed's words are read as that deed. -/
theorem readP_right {d : Dee} (h : deedB d = true) : readW (wordsP d) (placeV wordsS (sat (wordsP d) 0) + 1) = some d := by
  obtain ⟨⟨h1, h2⟩, _⟩ := deed_true h
  have e := read_show h
  rw [readB, split_show h] at e
  rw [wordsP_in h1 h2]; exact e
theorem readP_wrong {d r : Dee} (h : deedB d = false) (e : readW (wordsP d) (placeV wordsS (sat (wordsP d) 0) + 1) = some r) : r ≠ d := by
  intro q
  rw [← q, readW_right e] at h
  cases h
theorem itoa_len {n : Int} (h0 : -9223372036854775808 ≤ n) (h1 : n ≤ 9223372036854775807) : (itoaB n).size ≤ 20 := by
  have e : (itoaB n).size = (itoa n).length := rfl
  rw [e, itoa]
  split
  · have := dec_len (u := n.natAbs) (k := 18) (by omega)
    rw [List.length_cons]; omega
  · have := dec_len (u := n.toNat) (k := 18) (by omega)
    omega
theorem wordsP_size {d : Dee} {m : Nat} (hm : 20 ≤ m) (h0 : -9223372036854775808 ≤ d.n) (h1 : d.n ≤ 9223372036854775807) (hw : d.who.size ≤ m) (hi : d.mill.size ≤ m) (ht : d.to.size ≤ m) : (∀ x ∈ wordsP d, x.size ≤ m) ∧ (wordsP d).length ≤ 5 := by
  unfold wordsP
  split
  · rename_i hk
    have ht4 := tells_size d.kind
    have ht4' : (tellsS d.kind).data.toList.length ≤ 4 := ht4
    refine ⟨fun x hx => ?_, by rw [wordsOf]; simp; exact ht4'⟩
    rcases List.mem_cons.mp hx with rfl | hx
    · have hws : ∀ w ∈ wordsS, w.size ≤ 20 := by decide
      have := hws _ (word_mem hk.1 hk.2); omega
    · obtain ⟨e, _, rfl⟩ := List.mem_map.mp hx
      have := itoa_len h0 h1
      split
      · exact hw
      split
      · exact hi
      split
      · exact ht
      · omega
  · exact ⟨fun x hx => by simp only [List.mem_singleton] at hx; subst hx; exact Nat.zero_le _, by simp⟩
theorem joinT_join (b : UInt8) : ∀ xs : List (List UInt8), Lib.join xs [b] = joinT b xs
  | [] => rfl
  | [x] => by rw [Lib.join_one]; rfl
  | x :: y :: r => by
    rw [joinT, ← joinT_join b (y :: r)]
    simp [Lib.join, List.intercalate, List.intersperse]
theorem join_show {d : Dee} (h : deedB d = true) : (⟨(Lib.join ((wordsP d).map (·.data.toList)) [32]).toArray⟩ : ByteArray) = showB d := by
  obtain ⟨⟨h1, h2⟩, _⟩ := deed_true h
  apply ba_ext
  rw [wordsP_in h1 h2, joinT_join, show_join h]

/-! Cut no more than so many times -/
theorem pieces_cons (c b : UInt8) (l : List UInt8) (h : b ≠ c) : ∃ x t, pieces c [] l = x :: t ∧ pieces c [] (b :: l) = (b :: x) :: t := by
  cases e : pieces c [] l with
  | nil => exact absurd e (pieces_ne _ _ _)
  | cons x t =>
    refine ⟨x, t, rfl, ?_⟩
    rw [pieces, if_neg h]
    exact pieces_more c b l [] x t e
theorem splitK_pieces (c : UInt8) : ∀ (l : List UInt8) (k : Nat), splitK [c] 0 k l = pieces c [] l ∨ ((splitK [c] 0 k l).length = k + 1 ∧ k + 1 < (pieces c [] l).length ∧ (1 ≤ k → (splitK [c] 0 k l).head? = (pieces c [] l).head?))
  | [], k => by
    left
    cases k with
    | zero => rfl
    | succ k => rfl
  | b :: l, k => by
    by_cases h : b = c
    · subst h
      have hp : pieces b [] (b :: l) = [] :: pieces b [] l := by rw [pieces, if_pos rfl]
      cases k with
      | zero =>
        right
        refine ⟨rfl, ?_, fun h => by omega⟩
        rw [hp, List.length_cons]
        have := List.length_pos_iff.mpr (pieces_ne b [] l)
        omega
      | succ k =>
        have hs : splitK [b] 0 (k + 1) (b :: l) = [] :: splitK [b] 0 k l := by
          rw [splitK, index_here]
          simp
        rw [hs, hp]
        rcases splitK_pieces b l k with e | ⟨e1, e2, _⟩
        · left; rw [e]
        · right
          refine ⟨by rw [List.length_cons, e1], by rw [List.length_cons]; omega, fun _ => rfl⟩
    · obtain ⟨x, t, hx, hp⟩ := pieces_cons c b l h
      cases k with
      | zero =>
        rcases splitK_pieces c l 0 with e | ⟨e1, e2, _⟩
        · left
          rw [hx] at e
          have e' : [l] = x :: t := e
          obtain ⟨rfl, rfl⟩ := List.cons.inj e'
          rw [hp]; rfl
        · right
          refine ⟨rfl, ?_, fun h => by omega⟩
          rw [hp]; rw [hx] at e2; simpa using e2
      | succ k =>
        have ih := splitK_pieces c l (k + 1)
        by_cases hi : index l [c] = -1
        · have e1 : splitK [c] 0 (k + 1) l = [l] := by rw [splitK, hi]; rfl
          have e2 : splitK [c] 0 (k + 1) (b :: l) = [b :: l] := by rw [splitK, index_skip b c l h, hi]; rfl
          rw [e1] at ih
          rcases ih with e | ⟨e3, _⟩
          · left
            rw [hx] at e
            obtain ⟨rfl, rfl⟩ := List.cons.inj e
            rw [e2, hp]
          · simp at e3
        · have hge := Lib.index_ge l [c]
          obtain ⟨j, hj⟩ : ∃ j : Nat, index l [c] = j := ⟨(index l [c]).toNat, by omega⟩
          have z1 : (((j : Nat) : Int) == -1) = false := by rw [beq_eq_false_iff_ne]; omega
          have z2 : (((j : Nat) : Int) + 1 == -1) = false := by rw [beq_eq_false_iff_ne]; omega
          have u1 : (((j : Nat) : Int) + 1).toNat = j + 1 := by omega
          have u2 : ((j : Nat) : Int).toNat = j := by omega
          have e1 : splitK [c] 0 (k + 1) l = l.take j :: splitK [c] 0 k (l.drop (j + 1)) := by
            rw [splitK, hj]; simp only [z1, Bool.false_eq_true, if_false, u2]; simp
          have e2 : splitK [c] 0 (k + 1) (b :: l) = (b :: l.take j) :: splitK [c] 0 k (l.drop (j + 1)) := by
            rw [splitK, index_skip b c l h, hj]; simp only [z1, z2, Bool.false_eq_true, if_false, u1]; simp
          rw [e1, hx] at ih
          rw [e2, hp]
          rcases ih with e | ⟨e3, e4, e5⟩
          · left
            obtain ⟨rfl, rfl⟩ := List.cons.inj e
            rfl
          · right
            refine ⟨by simpa using e3, by simpa using e4, fun h1 => ?_⟩
            have := e5 h1
            simp only [List.head?_cons, Option.some.injEq] at this ⊢
            rw [this]
theorem split_ne (sep : ByteArray) (k : Nat) (s : ByteArray) : Lib.splitB sep 0 k s ≠ [] := by
  cases k with
  | zero => simp [Lib.splitB]
  | succ k => rw [Lib.splitB]; split <;> simp
theorem split_size {c : UInt8} : ∀ (s : ByteArray) (k : Nat), ∀ x ∈ Lib.splitB ⟨#[c]⟩ 0 k s, x.size ≤ s.size := by
  intro s k
  induction k generalizing s with
  | zero => intro x hx; simp only [Lib.splitB, List.mem_singleton] at hx; subst hx; exact Nat.le_refl _
  | succ k ih =>
    intro x hx
    rw [Lib.splitB] at hx
    split at hx
    · simp only [List.mem_singleton] at hx; subst hx; exact Nat.le_refl _
    · rcases List.mem_cons.mp hx with rfl | hx
      · rw [ByteArray.size_extract]; omega
      · have := ih _ x hx
        rw [ByteArray.size_extract] at this; omega
/-- strings.SplitN's pieces: all of them, or just so many where there are more, the first of them as it is. -/
theorem splitN_pieces (c : UInt8) (s : ByteArray) (n : Nat) (hn : 1 ≤ n) : Lib.splitB ⟨#[c]⟩ 0 (min n (s.size + 1) - 1) s = splitB1 c.toNat s ∨
    ((Lib.splitB ⟨#[c]⟩ 0 (min n (s.size + 1) - 1) s).length = n ∧ n < (splitB1 c.toNat s).length ∧ (2 ≤ n → sat (Lib.splitB ⟨#[c]⟩ 0 (min n (s.size + 1) - 1) s) 0 = sat (splitB1 c.toNat s) 0)) := by
  have h1 := Lib.splitB_data ⟨#[c]⟩ 0 (min n (s.size + 1) - 1) s
  have h2 := splitB1_list c s
  have hsz : (splitB1 c.toNat s).length ≤ s.size + 1 := pieceF_len _ _ _ _ _
  have hinj : ∀ a b : ByteArray, a.data.toList = b.data.toList → a = b := fun a b q => WideShapes.bytes_inj q
  generalize Lib.splitB ⟨#[c]⟩ 0 (min n (s.size + 1) - 1) s = p at h1 ⊢
  generalize splitB1 c.toNat s = q at h2 hsz ⊢
  have h1 : p.map (·.data.toList) = splitK [c] 0 (min n (s.size + 1) - 1) s.data.toList := h1
  rcases splitK_pieces c s.data.toList (min n (s.size + 1) - 1) with e | ⟨e1, e2, e3⟩
  · left
    exact (List.map_inj_right (fun a b q => hinj a b q)).mp (by rw [h1, h2, e])
  · right
    rw [← h1, List.length_map] at e1
    rw [← h2, List.length_map] at e2
    refine ⟨by omega, by omega, fun h => ?_⟩
    have e4 := e3 (by omega)
    rw [← h1, ← h2] at e4
    cases p with
    | nil => simp at e1
    | cons x r =>
      cases q with
      | nil => simp at e2
      | cons y t =>
        have : x.data.toList = y.data.toList := by simpa using e4
        exact hinj _ _ this
/-- Six words are as good as all. -/
theorem read_six (s : ByteArray) : readW (Lib.splitB ⟨#[32]⟩ 0 (min 6 (s.size + 1) - 1) s) (placeV wordsS (sat (Lib.splitB ⟨#[32]⟩ 0 (min 6 (s.size + 1) - 1) s) 0) + 1) = readB s := by
  rcases splitN_pieces 32 s 6 (by omega) with e | ⟨e1, e2, e3⟩
  · rw [e]; rfl
  · have e3 := e3 (by omega)
    have e32 : (((32 : UInt8).toNat : Nat) : Int) = 32 := rfl
    rw [e32] at e2 e3
    rw [readB, e3]
    generalize placeV wordsS (sat (splitB1 32 s) 0) + 1 = k
    have ht := tells_size k
    have no : ∀ w : List ByteArray, 6 ≤ w.length → readW w k = none := fun w hw => by
      rw [readW]
      split
      · rfl
      · rw [if_pos (by omega)]
    rw [no _ (by omega), no _ (by omega)]
theorem readAll_few : ∀ {ws : List ByteArray} {out l : List Dee}, readAll ws out = some l → out.length ≤ 20 → ws.length + out.length ≤ 20
  | [], out, l, _, ho => by simpa using ho
  | x :: r, out, l, h, ho => by
    rw [readAll] at h
    cases hx : readB x with
    | none => rw [hx] at h; cases h
    | some d =>
      rw [hx] at h
      simp only at h
      split at h
      · cases h
      · have := readAll_few h (by rw [List.length_append]; simp; omega)
        rw [List.length_append] at this
        simp at this ⊢; omega
theorem reads_many {s : ByteArray} (h : s.toList ≠ []) (hl : 20 < (splitB1 59 s).length) : readsB s = none := by
  rw [readsB, if_neg h]
  cases q : readAll (splitB1 59 s) [] with
  | none => rfl
  | some l => have := readAll_few q (by simp); simp at this; omega
/-- 21 texts are as good as all. -/
theorem reads_twenty (s : ByteArray) (h : s.toList ≠ []) : readsB s = if 20 < (Lib.splitB ⟨#[59]⟩ 0 (min 21 (s.size + 1) - 1) s).length then none else readAll (Lib.splitB ⟨#[59]⟩ 0 (min 21 (s.size + 1) - 1) s) [] := by
  have e59 : (((59 : UInt8).toNat : Nat) : Int) = 59 := rfl
  rcases splitN_pieces 59 s 21 (by omega) with e | ⟨e1, e2, _⟩
  · rw [e59] at e
    rw [e]
    by_cases hl : 20 < (splitB1 59 s).length
    · rw [if_pos hl, reads_many h hl]
    · rw [if_neg hl, readsB, if_neg h]
  · rw [e59] at e2
    rw [if_pos (by omega), reads_many h (by omega)]
end Go.Proofs.YtoabpbdjffonlaaGreatDoor
namespace Go.Proofs.YtoabpbdjffonlaaGreatDoor
open Go.Shelf

def laySplitN_ren : Go.Shelf.Ren := ⟨fun | 147 => 25 | 221 => 52 | 268 => 62 | 138 => 63 | 143 => 64 | 195 => 70 | 197 => 71 | 218 => 72 | 219 => 73 | 260 => 80 | 217 => 81 | 225 => 82 | 224 => 83 | 267 => 84 | 266 => 95 | 314 => 96 | n => n, fun | 9 => 9 | 3 => 3 | 31 => 37 | 4 => 4 | 0 => 0 | 105 => 117 | 21 => 21 | 5 => 5 | 46 => 109 | 119 => 141 | 139 => 144 | 138 => 143 | 146 => 145 | 51 => 131 | n => n, fun | 1 => 0 | 3 => 2 | 4 => 3 | n => n⟩
theorem laySplitN : Go.Proofs.LaysM.n147 Tryz.prog laySplitN_ren where
  mixed := by kernel_rfl
  f138 := Tryz.func63.trans (congrArg some (by kernel_rfl))
  f143 := Tryz.func64.trans (congrArg some (by kernel_rfl))
  f147 := Tryz.func25.trans (congrArg some (by kernel_rfl))
  f195 := Tryz.func70.trans (congrArg some (by kernel_rfl))
  f197 := Tryz.func71.trans (congrArg some (by kernel_rfl))
  f217 := Tryz.func81.trans (congrArg some (by kernel_rfl))
  f218 := Tryz.func72.trans (congrArg some (by kernel_rfl))
  f219 := Tryz.func73.trans (congrArg some (by kernel_rfl))
  f221 := Tryz.func52.trans (congrArg some (by kernel_rfl))
  f224 := Tryz.func83.trans (congrArg some (by kernel_rfl))
  f225 := Tryz.func82.trans (congrArg some (by kernel_rfl))
  f260 := Tryz.func80.trans (congrArg some (by kernel_rfl))
  f266 := Tryz.func95.trans (congrArg some (by kernel_rfl))
  f267 := Tryz.func84.trans (congrArg some (by kernel_rfl))
  f268 := Tryz.func62.trans (congrArg some (by kernel_rfl))
  f314 := Tryz.func96.trans (congrArg some (by kernel_rfl))
  t0 := Tryz.underlying0
  a0 := Tryz.isAgg0
  z0 := Tryz.sizeOf0
  v0 := Tryz.zeroValue0
  t3 := Tryz.underlying3
  a3 := Tryz.isAgg3
  z3 := Tryz.sizeOf3
  v3 := Tryz.zeroValue3
  t4 := Tryz.underlying4
  a4 := Tryz.isAgg4
  z4 := Tryz.sizeOf4
  v4 := Tryz.zeroValue4
  t5 := Tryz.underlying5
  a5 := Tryz.isAgg5
  z5 := Tryz.sizeOf5
  v5 := Tryz.zeroValue5
  t9 := Tryz.underlying9
  a9 := Tryz.isAgg9
  z9 := Tryz.sizeOf9
  v9 := Tryz.zeroValue9
  t21 := Tryz.underlying21
  a21 := Tryz.isAgg21
  z21 := Tryz.sizeOf21
  v21 := Tryz.zeroValue21
  t31 := Tryz.underlying37
  a31 := Tryz.isAgg37
  z31 := Tryz.sizeOf37
  v31 := Tryz.zeroValue37
  t46 := Tryz.underlying109
  a46 := Tryz.isAgg109
  z46 := Tryz.sizeOf109
  v46 := Tryz.zeroValue109
  t51 := Tryz.underlying131
  a51 := Tryz.isAgg131
  z51 := Tryz.sizeOf131
  v51 := Tryz.zeroValue131
  t105 := Tryz.underlying117
  a105 := Tryz.isAgg117
  z105 := Tryz.sizeOf117
  v105 := Tryz.zeroValue117
  t119 := Tryz.underlying141
  a119 := Tryz.isAgg141
  z119 := Tryz.sizeOf141
  t138 := Tryz.underlying143
  a138 := Tryz.isAgg143
  z138 := Tryz.sizeOf143
  v138 := Tryz.zeroValue143
  t139 := Tryz.underlying144
  a139 := Tryz.isAgg144
  z139 := Tryz.sizeOf144
  v139 := Tryz.zeroValue144
  t146 := Tryz.underlying145
  a146 := Tryz.isAgg145
  z146 := Tryz.sizeOf145
  v146 := Tryz.zeroValue145
  g1 := by kernel_rfl
  g3 := by kernel_rfl
  g4 := by kernel_rfl
  i0 := by kernel_rfl
  i3 := by kernel_rfl
  i4 := by kernel_rfl
  i5 := by kernel_rfl
  i9 := by kernel_rfl
  i21 := by kernel_rfl
  i31 := by kernel_rfl
  i46 := by kernel_rfl
  i51 := by kernel_rfl
  i105 := by kernel_rfl
  i138 := by kernel_rfl
  i139 := by kernel_rfl
  i146 := by kernel_rfl
  m1 := by kernel_rfl
  s1_3 := fun w h => Go.Proofs.cell_of_shapedOpen_int (zero := #[.int .i64 0]) (t := 3) h (of_decide_eq_true (by kernel_rfl)) (by kernel_rfl) rfl (by kernel_rfl) (by kernel_rfl) Tryz.underlying3
  m3 := by kernel_rfl
  m4 := by kernel_rfl

def layJoin_ren : Go.Shelf.Ren := ⟨fun | 156 => 18 | 165 => 38 | 166 => 39 | 169 => 40 | 240 => 57 | 241 => 58 | 276 => 65 | 277 => 66 | n => n, fun | 31 => 37 | 9 => 9 | 3 => 3 | 4 => 4 | 0 => 0 | 20 => 20 | 72 => 63 | 76 => 67 | 70 => 61 | 37 => 22 | 75 => 66 | 127 => 104 | 164 => 110 | 5 => 5 | 80 => 69 | n => n, fun | n => n⟩
theorem layJoin : Go.Proofs.Lays.n156 Tryz.prog layJoin_ren where
  mixed := by kernel_rfl
  f156 := Tryz.func18.trans (congrArg some (by kernel_rfl))
  f165 := Tryz.func38.trans (congrArg some (by kernel_rfl))
  f166 := Tryz.func39.trans (congrArg some (by kernel_rfl))
  f169 := Tryz.func40.trans (congrArg some (by kernel_rfl))
  f240 := Tryz.func57.trans (congrArg some (by kernel_rfl))
  f241 := Tryz.func58.trans (congrArg some (by kernel_rfl))
  f276 := Tryz.func65.trans (congrArg some (by kernel_rfl))
  f277 := Tryz.func66.trans (congrArg some (by kernel_rfl))
  t0 := Tryz.underlying0
  a0 := Tryz.isAgg0
  z0 := Tryz.sizeOf0
  v0 := Tryz.zeroValue0
  t3 := Tryz.underlying3
  a3 := Tryz.isAgg3
  z3 := Tryz.sizeOf3
  v3 := Tryz.zeroValue3
  t4 := Tryz.underlying4
  a4 := Tryz.isAgg4
  z4 := Tryz.sizeOf4
  v4 := Tryz.zeroValue4
  t9 := Tryz.underlying9
  a9 := Tryz.isAgg9
  z9 := Tryz.sizeOf9
  v9 := Tryz.zeroValue9
  t20 := Tryz.underlying20
  a20 := Tryz.isAgg20
  z20 := Tryz.sizeOf20
  v20 := Tryz.zeroValue20
  t31 := Tryz.underlying37
  a31 := Tryz.isAgg37
  z31 := Tryz.sizeOf37
  v31 := Tryz.zeroValue37
  t37 := Tryz.underlying22
  a37 := Tryz.isAgg22
  z37 := Tryz.sizeOf22
  v37 := Tryz.zeroValue22
  t70 := Tryz.underlying61
  a70 := Tryz.isAgg61
  z70 := Tryz.sizeOf61
  v70 := Tryz.zeroValue61
  t72 := Tryz.underlying63
  a72 := Tryz.isAgg63
  z72 := Tryz.sizeOf63
  v72 := Tryz.zeroValue63
  t75 := Tryz.underlying66
  a75 := Tryz.isAgg66
  z75 := Tryz.sizeOf66
  v75 := Tryz.zeroValue66
  t76 := Tryz.underlying67
  a76 := Tryz.isAgg67
  z76 := Tryz.sizeOf67
  v76 := Tryz.zeroValue67
  t127 := Tryz.underlying104
  a127 := Tryz.isAgg104
  z127 := Tryz.sizeOf104
  v127 := Tryz.zeroValue104
  t164 := Tryz.underlying110
  a164 := Tryz.isAgg110
  z164 := Tryz.sizeOf110
  v164 := Tryz.zeroValue110
theorem extraJoin : Go.Proofs.Builder.Extra Tryz.prog layJoin_ren where
  sizeBuilder := by kernel_rfl
  liesBuilder := by kernel_rfl
  t5 := Tryz.underlying5
  a5 := Tryz.isAgg5
  z5 := Tryz.sizeOf5
  v5 := Tryz.zeroValue5
  infoByte := by kernel_rfl
  cellsByte := by kernel_rfl
  sizeByte := by kernel_rfl
  neB5 := by decide
end Go.Proofs.YtoabpbdjffonlaaGreatDoor
