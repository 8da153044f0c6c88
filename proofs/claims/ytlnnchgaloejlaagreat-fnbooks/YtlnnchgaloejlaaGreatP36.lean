/-
  Texts joined: Draw3.
-/
import Derived.Test.YtlnnchgaloejlaaGreatP4
import Derived.Test.YtlnnchgaloejlaaGreatP12
import Derived.Test.YtlnnchgaloejlaaGreatP35
namespace Go.Proofs.YtlnnchgaloejlaaGreat
open Go.ChangeShapes Go.WideShapes Go.ChangeAt Go.RowKit

/-- Purses that a draw owns: what is known of them behind it. -/
structure OwnD (C : Nat) (a : Option Addr) (len cap : Nat) (w : World) (g c : Nat) (ps : List Pur) (w' : World) : Prop where
  own : w'.ownsRow w.heap.size 41 2 (.slice (some ⟨g, 0, none⟩) ps.length c) ps.length (pcells ps)
  few : ps.length ≤ 9
  short : ∀ p ∈ ps, p.name.size ≤ 7
  cur : Cur w' C a len cap
  grown : w.grownBy w' (some C)

theorem OwnD.lo {C : Nat} {a : Option Addr} {len cap : Nat} {w : World} {g c : Nat} {ps : List Pur} {w' : World} (h : OwnD C a len cap w g c ps w') : w.heap.size ≤ g ∧ g < w'.heap.size := by
  rcases h.own.2 with ⟨e, _⟩ | ⟨g', cap', cur, e, hb, hh, _⟩
  · cases e
  · injection e with e; injection e with e; injection e with e1; subst e1
    exact ⟨hb, (Array.getElem?_eq_some_iff.1 hh).1⟩
theorem OwnD.draw {C : Nat} {a : Option Addr} {len cap : Nat} {w : World} {g c : Nat} {ps : List Pur} {w' w2 : World} (h : OwnD C a len cap w g c ps w') (hC : C < w.heap.size) (hc : Cur w2 C a len cap) (hg : w'.grownBy w2 (some C)) : OwnD C a len cap w g c ps w2 :=
  ⟨own_grown h.own hg (fun g hg => by intro e; injection e with e; omega), h.few, h.short, hc, grown_step h.grown hg⟩
theorem OwnD.lies {C : Nat} {a : Option Addr} {len cap : Nat} {w : World} {g c : Nat} {ps : List Pur} {w' : World} (h : OwnD C a len cap w g c ps w') : Purs w' (some ⟨g, 0, none⟩) ps := by
  rcases h.own.2 with ⟨e, _⟩ | ⟨g', cap', cur, e, hb, hh, _, _, hs, ht⟩
  · cases e
  · injection e with e; injection e with e; injection e with e1; subst e1
    intro k v hk
    have hlt := (List.getElem?_eq_some_iff.1 hk).1
    refine ⟨g, 0, rfl, ?_⟩
    rw [← ht, List.getElem?_take_of_lt (by rw [pcells_length] at hlt; exact hlt)] at hk
    simpa [World.cell?, hh] using hk
theorem OwnD.free {C : Nat} {a : Option Addr} {len cap : Nat} {w : World} {g c : Nat} {ps : List Pur} {w' : World} (h : OwnD C a len cap w g c ps w') (o : Nat) : w'.frozen? ⟨g, o, none⟩ = false := by
  rcases h.own.2 with ⟨e, _⟩ | ⟨g', cap', cur, e, hb, hh, _⟩
  · cases e
  · injection e with e; injection e with e; injection e with e1; subst e1
    simp [World.frozen?, hh]
theorem OwnD.set {C : Nat} {a : Option Addr} {len cap : Nat} {w : World} {g c : Nat} {ps qs : List Pur} {w' : World} (h : OwnD C a len cap w g c ps w') (hC : C < w.heap.size) (ha : ∀ b off, a = some ⟨b, off, none⟩ → 0 < len → b < w.heap.size)
    {i : Nat} {v : Value} (hq : pcells qs = (pcells ps).set i v) (hl : qs.length = ps.length) (hs : ∀ p ∈ qs, p.name.size ≤ 7) : OwnD C a len cap w g c qs (w'.setCell ⟨g, i, none⟩ v) := by
  have hlo := h.lo
  have hg : w'.grownBy (w'.setCell ⟨g, i, none⟩ v) (some g) := grown_set (grown_refl _ _) i v
  refine ⟨?_, by rw [hl]; exact h.few, hs, h.cur.own (B := w.heap.size) hg (fun x hx => by injection hx with hx; omega) hC ha, grown_own h.grown hg (fun x hx => by injection hx with hx; omega)⟩
  rcases h.own.2 with ⟨e, _⟩ | ⟨g', cap', cur, e, hb, hh, h1, h2, h3, h4⟩
  · cases e
  · injection e with e e2 e3; injection e with e; injection e with e1; subst e1; subst e3
    rw [hl, hq]
    refine ⟨by simp [pcells_length], .inr ⟨g, c, cur.setIfInBounds i v, rfl, hb, ?_, h1, h2, by simpa using h3, ?_⟩⟩
    · simp [World.setCell, Array.getElem?_modify, hh]
    · rw [Array.toList_setIfInBounds, List.take_set, h4]

theorem pcells_take : ∀ (qs : List Pur) (n : Nat), pcells (qs.take n) = (pcells qs).take (n * 2)
  | [], n => by simp [pcells]
  | q :: r, 0 => by simp [pcells]
  | q :: r, n + 1 => by
    rw [List.take_succ_cons, pcells, pcells, pcells_take r n, show (n + 1) * 2 = n * 2 + 1 + 1 by omega]
    simp
theorem own_lit {w w3 : World} (hle : w.heap.size ≤ w3.heap.size) (qs : List Pur) (n : Nat) (hn : n ≤ qs.length) (hm : qs.length ≤ 9) :
    (w3.alloc (.cells (pcells qs).toArray 41)).ownsRow w.heap.size 41 2 (.slice (some ⟨w3.heap.size, 0, none⟩) (qs.take n).length qs.length) (qs.take n).length (pcells (qs.take n)) := by
  have hl : (qs.take n).length = n := by simp; omega
  refine ⟨by rw [pcells_length], .inr ⟨w3.heap.size, qs.length, (pcells qs).toArray, rfl, hle, heap_alloc_new _ _, by omega, by unfold maxLen; omega, by simp [pcells_length], ?_⟩⟩
  rw [hl, pcells_take]
/-- A literal that is cut. -/
theorem ownD_lit {C : Nat} {a : Option Addr} {len cap : Nat} {w w3 w4 : World} (hC : C < w.heap.size) (hg3 : w.grownBy w3 (some C)) (qs : List Pur) (hm : qs.length ≤ 9) (hs : ∀ p ∈ qs, p.name.size ≤ 7)
    (hc : Cur w4 C a len cap) (hg : (w3.alloc (.cells (pcells qs).toArray 41)).grownBy w4 (some C)) (n : Nat) (hn : n ≤ qs.length) : OwnD C a len cap w w3.heap.size qs.length (qs.take n) w4 :=
  ⟨own_grown (own_lit hg3.size qs n hn hm) hg (fun g hg => by intro e; injection e with e; omega), by simp; omega, fun p hp => hs p (List.mem_of_mem_take hp), hc, grown_step (grown_new hg3 _) hg⟩

/-- What 'l3Draw' leaves. -/
def DrawnThree (C : Nat) (a : Option Addr) (len cap : Nat) (w : World) (e : Ending) (w' : World) : Prop :=
  ∃ (g : Nat) (qs : List Pur), e = .returned (.slice (some ⟨g, 0, none⟩) 3 3) ∧ qs.length = 3 ∧ ∀ n, n ≤ 3 → OwnD C a len cap w g 3 (qs.take n) w'

set_option maxHeartbeats 1000000 in
set_option maxRecDepth 100000 in
theorem l3Draw_any {C : Nat} {a : Option Addr} {len cap : Nat} {w : World} (h : Cur w C a len cap) :
    Calls Tryz.prog 84 #[.pointer (some ⟨C, 0, none⟩)] w (DrawnThree C a len cap w) := by
  have hC : C < w.heap.size := lt_of_cell h.c0
  go_enter Tryz.func84, Tryz.ntmps84
  go_wp2_with fail
  refine (l1Below_any _ h (by omega) (by omega)).mono ?_
  rintro e w1 ⟨x, -, rfl, hc1, hg1⟩
  go_wp2_with fail
  refine (l1Below_any _ hc1 (by omega) (by omega)).mono ?_
  rintro e w2 ⟨y, -, rfl, hc2, hg2⟩
  go_wp2_with fail
  refine (l1Below_any _ hc2 (by omega) (by omega)).mono ?_
  rintro e w3 ⟨z, -, rfl, hc3, hg3⟩
  have HG := Lib.hid (grown_step (grown_step hg1 hg2) hg3)
  have HC := Lib.hid hc3
  clear hg1 hg2 hg3 hc1 hc2 hc3
  go_wp2
  go_ret
  refine ⟨w3.heap.size, [⟨⟨#[97, 110, 110]⟩, x⟩, ⟨⟨#[98, 111, 98]⟩, y⟩, ⟨⟨#[109, 105, 97]⟩, z⟩], rfl, rfl, fun n hn => ?_⟩
  exact ownD_lit hC HG.out [⟨⟨#[97, 110, 110]⟩, x⟩, ⟨⟨#[98, 111, 98]⟩, y⟩, ⟨⟨#[109, 105, 97]⟩, z⟩] (by simp) (by intro p hp; simp at hp; rcases hp with rfl | rfl | rfl <;> exact Nat.le_of_ble_eq_true rfl) (HC.out.kept (below_new _ _)) (grown_refl _ _) n hn

theorem pcells_append : ∀ (ps qs : List Pur), pcells (ps ++ qs) = pcells ps ++ pcells qs
  | [], qs => rfl
  | p :: r, qs => by simp [pcells, pcells_append r qs]
def nine : List Pur := [⟨⟨#[97]⟩, 0⟩, ⟨⟨#[98]⟩, 0⟩, ⟨⟨#[99]⟩, 0⟩, ⟨⟨#[100]⟩, 0⟩, ⟨⟨#[101]⟩, 0⟩, ⟨⟨#[102]⟩, 0⟩, ⟨⟨#[103]⟩, 0⟩, ⟨⟨#[104]⟩, 0⟩, ⟨⟨#[105]⟩, 0⟩]
theorem nine_short : ∀ p ∈ nine, p.name.size ≤ 7 := by
  intro p hp
  simp only [nine, List.mem_cons, List.not_mem_nil, or_false] at hp
  rcases hp with rfl | rfl | rfl | rfl | rfl | rfl | rfl | rfl | rfl <;> exact Nat.le_of_ble_eq_true rfl
/-- The first one's name is another. -/
def headName (s : ByteArray) : List Pur → List Pur
  | [] => []
  | p :: r => ⟨s, p.free⟩ :: r
def headFree (n : Int) : List Pur → List Pur
  | [] => []
  | p :: r => ⟨p.name, n⟩ :: r
theorem headName_cells (s : ByteArray) : ∀ ps, pcells (headName s ps) = (pcells ps).set 0 (.string s)
  | [] => rfl
  | _ :: _ => rfl
theorem headFree_cells (n : Int) : ∀ ps, pcells (headFree n ps) = (pcells ps).set 1 (.int .i64 n)
  | [] => rfl
  | _ :: _ => rfl
theorem headName_length (s : ByteArray) : ∀ ps, (headName s ps).length = ps.length
  | [] => rfl
  | _ :: _ => rfl
theorem headFree_length (n : Int) : ∀ ps, (headFree n ps).length = ps.length
  | [] => rfl
  | _ :: _ => rfl
theorem headName_short {s : ByteArray} (hs : s.size ≤ 7) : ∀ {ps : List Pur}, (∀ p ∈ ps, p.name.size ≤ 7) → ∀ p ∈ headName s ps, p.name.size ≤ 7
  | [], h => h
  | q :: r, h => by
    intro p hp
    rcases List.mem_cons.1 hp with rfl | hp
    · exact hs
    · exact h p (by simp [hp])
theorem headFree_short {n : Int} : ∀ {ps : List Pur}, (∀ p ∈ ps, p.name.size ≤ 7) → ∀ p ∈ headFree n ps, p.name.size ≤ 7
  | [], h => h
  | q :: r, h => by
    intro p hp
    rcases List.mem_cons.1 hp with rfl | hp
    · exact h q (by simp)
    · exact h p (by simp [hp])

/-- What a draw of purses leaves. -/
def DrawnP (C : Nat) (a : Option Addr) (len cap : Nat) (w : World) (e : Ending) (w' : World) : Prop :=
  ∃ (g c : Nat) (ps : List Pur), e = .returned (.slice (some ⟨g, 0, none⟩) ps.length c) ∧ OwnD C a len cap w g c ps w'

set_option maxHeartbeats 4000000 in
set_option maxRecDepth 100000 in
theorem l3DrawAny_any {C : Nat} {a : Option Addr} {len cap : Nat} {w : World} (h : Cur w C a len cap) :
    Calls Tryz.prog 53 #[.pointer (some ⟨C, 0, none⟩)] w (DrawnP C a len cap w) := by
  have hC : C < w.heap.size := lt_of_cell h.c0
  have HO := Lib.hid h.old
  have HC := Lib.hid h
  clear h
  obtain ⟨i0, hi, hz0, hz1, hz2⟩ := info_parts info_purse2
  have HI := Lib.hid hi
  have HZ0 := Lib.hid hz0
  have HZ1 := Lib.hid hz1
  have HZ2 := Lib.hid hz2
  clear hi hz0 hz1 hz2
  go_enter Tryz.func53, Tryz.ntmps53
  go_wp2_with fail
  refine (l3Draw_any HC.out).mono ?_
  rintro e w1 ⟨g, qs, rfl, hq, hown1⟩
  have HQ := Lib.hid hq
  have HW1 := Lib.hid hown1
  clear hq hown1
  go_wp2_with fail
  refine (l1Below_any _ (HW1.out 0 (by omega)).cur (by omega) (by omega)).mono ?_
  rintro e w2 ⟨x, ⟨hx, hx2⟩, rfl, hc2, hg2⟩
  obtain ⟨m, rfl⟩ : ∃ m : Nat, x = m := ⟨x.toNat, by omega⟩
  have HW2 := Lib.hid ((HW1.out m (by omega)).draw hC hc2 hg2)
  have HL := Lib.hid (show (qs.take m).length = m by rw [List.length_take, HQ.out]; omega)
  clear hc2 hg2 HW1
  by_cases hm : 0 < m
  case neg =>
    go_wp2_with fail
    refine (l1Once_any _ HW2.out.cur (by omega) (by omega)).mono ?_
    rintro e wA ⟨t, rfl, hcA, hgA⟩
    have HWA := Lib.hid (HW2.out.draw hC hcA hgA)
    clear hgA
    cases t
    · have HD := Lib.hid (show DrawnP C a len cap w (.returned (.slice (some ⟨g, 0, none⟩) (m) 3)) wA from ⟨g, 3, qs.take m, by rw [HL.out], HWA.out⟩)
      clear hcA
      go_wp2
      go_ret
      exact HD.out
    · have HCA := Lib.hid hcA
      clear hcA
      go_wp2_with fail
      refine (l1Below_any _ (HCA.out.kept (below_new _ _)) (by omega) (by omega)).mono ?_
      rintro e wB ⟨y, ⟨hy, hy2⟩, rfl, hcB, hgB⟩
      have HD := fun (k : Nat) (hk : k ≤ 9) => Lib.hid (show DrawnP C a len cap w (.returned (.slice (some ⟨wA.heap.size, 0, none⟩) (nine.take k).length 9)) wB from ⟨wA.heap.size, 9, nine.take k, rfl, ownD_lit hC HWA.out.grown nine (Nat.le_refl _) nine_short hcB hgB k hk⟩)
      have H8 := HD 8 (by omega)
      have H9 := HD 9 (by omega)
      clear HD hcB hgB
      have hy3 : y = 0 ∨ y = 1 := by omega
      rcases hy3 with rfl | rfl
      · go_wp2
        go_ret
        exact H8.out
      · go_wp2
        go_ret
        exact H9.out
  go_wp2_with fail
  refine (l1Once_any _ HW2.out.cur (by omega) (by omega)).mono ?_
  rintro e w3 ⟨t, rfl, hc3, hg3⟩
  have HW3 := Lib.hid (HW2.out.draw hC hc3 hg3)
  clear hc3 hg3 HW2
  cases t
  · go_wp2_with fail
    refine (l1Once_any _ HW3.out.cur (by omega) (by omega)).mono ?_
    rintro e wA ⟨t, rfl, hcA, hgA⟩
    have HWA := Lib.hid (HW3.out.draw hC hcA hgA)
    clear hgA
    cases t
    · have HD := Lib.hid (show DrawnP C a len cap w (.returned (.slice (some ⟨g, 0, none⟩) (m) 3)) wA from ⟨g, 3, qs.take m, by rw [HL.out], HWA.out⟩)
      clear hcA
      go_wp2
      go_ret
      exact HD.out
    · have HCA := Lib.hid hcA
      clear hcA
      go_wp2_with fail
      refine (l1Below_any _ (HCA.out.kept (below_new _ _)) (by omega) (by omega)).mono ?_
      rintro e wB ⟨y, ⟨hy, hy2⟩, rfl, hcB, hgB⟩
      have HD := fun (k : Nat) (hk : k ≤ 9) => Lib.hid (show DrawnP C a len cap w (.returned (.slice (some ⟨wA.heap.size, 0, none⟩) (nine.take k).length 9)) wB from ⟨wA.heap.size, 9, nine.take k, rfl, ownD_lit hC HWA.out.grown nine (Nat.le_refl _) nine_short hcB hgB k hk⟩)
      have H8 := HD 8 (by omega)
      have H9 := HD 9 (by omega)
      clear HD hcB hgB
      have hy3 : y = 0 ∨ y = 1 := by omega
      rcases hy3 with rfl | rfl
      · go_wp2
        go_ret
        exact H8.out
      · go_wp2
        go_ret
        exact H9.out
  · go_wp2_with fail
    refine (l1Below_any _ HW3.out.cur (by omega) (by omega)).mono ?_
    rintro e w4 ⟨y, ⟨hy, hy2⟩, rfl, hc4, hg4⟩
    have HW4 := Lib.hid (HW3.out.draw hC hc4 hg4)
    clear hc4 hg4 HW3
    have hy3 : y = 0 ∨ y = 1 ∨ y = 2 := by omega
    rcases hy3 with rfl | rfl | rfl
    · go_wp2_with fail
      refine (l2DrawAny_any HW4.out.cur).mono ?_
      rintro e w5 ⟨s, hs, rfl, hc5, hg5⟩
      have hw5 := HW4.out.draw hC hc5 hg5
      obtain ⟨b', off', e', _, q0, q1⟩ := hw5.lies.at 0 (by rw [HL.out]; exact hm)
      injection e' with e'; injection e' with e1 e2; subst e1; subst e2
      simp only [Nat.zero_add, Nat.zero_mul] at q0 q1
      have hf := hw5.free 0
      have HW6 := Lib.hid (hw5.set hC HO.out (headName_cells s _) (headName_length s _) (headName_short hs hw5.short))
      have HL6 := Lib.hid ((headName_length s (qs.take m)).trans HL.out)
      clear hw5 hc5 hg5 HW4
      go_wp2_with fail
      refine (l1Once_any _ HW6.out.cur (by omega) (by omega)).mono ?_
      rintro e wA ⟨t, rfl, hcA, hgA⟩
      have HWA := Lib.hid (HW6.out.draw hC hcA hgA)
      clear hgA
      cases t
      · have HD := Lib.hid (show DrawnP C a len cap w (.returned (.slice (some ⟨g, 0, none⟩) (m) 3)) wA from ⟨g, 3, headName s (qs.take m), by rw [HL6.out], HWA.out⟩)
        clear hcA
        go_wp2
        go_ret
        exact HD.out
      · have HCA := Lib.hid hcA
        clear hcA
        go_wp2_with fail
        refine (l1Below_any _ (HCA.out.kept (below_new _ _)) (by omega) (by omega)).mono ?_
        rintro e wB ⟨y, ⟨hy, hy2⟩, rfl, hcB, hgB⟩
        have HD := fun (k : Nat) (hk : k ≤ 9) => Lib.hid (show DrawnP C a len cap w (.returned (.slice (some ⟨wA.heap.size, 0, none⟩) (nine.take k).length 9)) wB from ⟨wA.heap.size, 9, nine.take k, rfl, ownD_lit hC HWA.out.grown nine (Nat.le_refl _) nine_short hcB hgB k hk⟩)
        have H8 := HD 8 (by omega)
        have H9 := HD 9 (by omega)
        clear HD hcB hgB
        have hy3 : y = 0 ∨ y = 1 := by omega
        rcases hy3 with rfl | rfl
        · go_wp2
          go_ret
          exact H8.out
        · go_wp2
          go_ret
          exact H9.out
    · go_wp2_with fail
      refine (l1DrawAmount_any HW4.out.cur).mono ?_
      rintro e w5 ⟨z, -, rfl, hc5, hg5⟩
      have hw5 := HW4.out.draw hC hc5 hg5
      obtain ⟨b', off', e', _, q0, q1⟩ := hw5.lies.at 0 (by rw [HL.out]; exact hm)
      injection e' with e'; injection e' with e1 e2; subst e1; subst e2
      simp only [Nat.zero_add, Nat.zero_mul] at q0 q1
      have hf := hw5.free 1
      have HW6 := Lib.hid (hw5.set hC HO.out (headFree_cells z _) (headFree_length z _) (headFree_short hw5.short))
      have HL6 := Lib.hid ((headFree_length z (qs.take m)).trans HL.out)
      clear hw5 hc5 hg5 HW4
      go_wp2_with fail
      refine (l1Once_any _ HW6.out.cur (by omega) (by omega)).mono ?_
      rintro e wA ⟨t, rfl, hcA, hgA⟩
      have HWA := Lib.hid (HW6.out.draw hC hcA hgA)
      clear hgA
      cases t
      · have HD := Lib.hid (show DrawnP C a len cap w (.returned (.slice (some ⟨g, 0, none⟩) (m) 3)) wA from ⟨g, 3, headFree z (qs.take m), by rw [HL6.out], HWA.out⟩)
        clear hcA
        go_wp2
        go_ret
        exact HD.out
      · have HCA := Lib.hid hcA
        clear hcA
        go_wp2_with fail
        refine (l1Below_any _ (HCA.out.kept (below_new _ _)) (by omega) (by omega)).mono ?_
        rintro e wB ⟨y, ⟨hy, hy2⟩, rfl, hcB, hgB⟩
        have HD := fun (k : Nat) (hk : k ≤ 9) => Lib.hid (show DrawnP C a len cap w (.returned (.slice (some ⟨wA.heap.size, 0, none⟩) (nine.take k).length 9)) wB from ⟨wA.heap.size, 9, nine.take k, rfl, ownD_lit hC HWA.out.grown nine (Nat.le_refl _) nine_short hcB hgB k hk⟩)
        have H8 := HD 8 (by omega)
        have H9 := HD 9 (by omega)
        clear HD hcB hgB
        have hy3 : y = 0 ∨ y = 1 := by omega
        rcases hy3 with rfl | rfl
        · go_wp2
          go_ret
          exact H8.out
        · go_wp2
          go_ret
          exact H9.out
    · have HOW := Lib.hid (show w4.ownsRow w.heap.size 41 2 (.slice (some ⟨g, 0, none⟩) m 3) m (pcells (qs.take m)) from by have := HW4.out.own; rw [HL.out] at this; exact this)
      go_wp2_with (at_builtin; refine wpList_append_lies _ rfl _ _ 24 rfl w.heap.size 41 i0 (.agg #[.string ByteArray.empty, .int .i64 0]) 2 24 Tryz.underlying24 HI.out HZ0.out HZ1.out HZ2.out rfl (by decide) _ _ _ rfl HOW.out ⟨g, 0, none⟩ m 3 (pcells (qs.take m)) rfl ?c0 ?c1 (pcells_one _) hm ?c3 ?c4 ?c5 _ rfl ?_)
      case c0 => rw [pcells_length, HL.out]
      case c1 =>
        intro j u hj
        obtain ⟨b', off', e, hc⟩ := HW4.out.lies j u hj
        injection e with e; injection e with e1 e2; subst e1; subst e2
        rw [add_plain]; exact hc
      case c3 => unfold maxLen; omega
      case c4 => omega
      case c5 => exact HW4.out.grown.size
      intro g5 c5 w5 hown5 hgrow hat hlt
      have hr : ∀ z, (Value.slice (some ⟨g, 0, none⟩) m 3).ownBlock = some z → w.heap.size ≤ z := fun z hz => by
        have : g = z := by simpa [Value.ownBlock] using hz
        have := HW4.out.lo; omega
      have HL6 := Lib.hid (show (qs.take m ++ qs.take m).length = m + m by rw [List.length_append, HL.out])
      have HW6 := Lib.hid (show OwnD C a len cap w g5 c5 (qs.take m ++ qs.take m) w5 from
        ⟨by rw [HL6.out, pcells_append]; exact hown5, by rw [HL6.out]; omega, by intro p hp; rcases List.mem_append.1 hp with hp | hp <;> exact HW4.out.short p hp, HW4.out.cur.own hgrow hr hC HO.out, grown_own HW4.out.grown hgrow hr⟩)
      clear hown5 hgrow hat hlt hr HW4 HOW
      go_wp2_with fail
      refine (l1Once_any _ HW6.out.cur (by omega) (by omega)).mono ?_
      rintro e wA ⟨t, rfl, hcA, hgA⟩
      have HWA := Lib.hid (HW6.out.draw hC hcA hgA)
      clear hgA
      cases t
      · have HD := Lib.hid (show DrawnP C a len cap w (.returned (.slice (some ⟨g5, 0, none⟩) (m + m) c5)) wA from ⟨g5, c5, qs.take m ++ qs.take m, by rw [HL6.out], HWA.out⟩)
        clear hcA
        go_wp2
        go_ret
        exact HD.out
      · have HCA := Lib.hid hcA
        clear hcA
        go_wp2_with fail
        refine (l1Below_any _ (HCA.out.kept (below_new _ _)) (by omega) (by omega)).mono ?_
        rintro e wB ⟨y, ⟨hy, hy2⟩, rfl, hcB, hgB⟩
        have HD := fun (k : Nat) (hk : k ≤ 9) => Lib.hid (show DrawnP C a len cap w (.returned (.slice (some ⟨wA.heap.size, 0, none⟩) (nine.take k).length 9)) wB from ⟨wA.heap.size, 9, nine.take k, rfl, ownD_lit hC HWA.out.grown nine (Nat.le_refl _) nine_short hcB hgB k hk⟩)
        have H8 := HD 8 (by omega)
        have H9 := HD 9 (by omega)
        clear HD hcB hgB
        have hy3 : y = 0 ∨ y = 1 := by omega
        rcases hy3 with rfl | rfl
        · go_wp2
          go_ret
          exact H8.out
        · go_wp2
          go_ret
          exact H9.out
end Go.Proofs.YtlnnchgaloejlaaGreat
