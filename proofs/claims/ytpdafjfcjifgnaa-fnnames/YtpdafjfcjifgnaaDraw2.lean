/-
  What the draws of chapter 2 return, whatever the bytes: strings of at most 7 bytes, lists of at most 3 of them; nothing that was there turns, but for the cursor.
-/
import Derived.Test.YtpdafjfcjifgnaaDrawB
import Derived.Test.YtpdafjfcjifgnaaStrAt
import Derived.Deep.AppendLies
import Derived.OwnWalk
namespace Go.Proofs.Ytpdafjfcjifgnaa
open Go.ChangeShapes Go.WideShapes Go.ChangeAt Go.RowKit

/-- What a draw of a string leaves. -/
def DrawnS (C : Nat) (a : Option Addr) (len cap : Nat) (w : World) (e : Ending) (w' : World) : Prop :=
  ∃ s : ByteArray, s.size ≤ 7 ∧ e = .returned (.string s) ∧ Cur w' C a len cap ∧ w.grownBy w' (some C)

set_option maxHeartbeats 1000000 in
theorem l2Draw_any {C : Nat} {a : Option Addr} {len cap : Nat} {w : World} (h : Cur w C a len cap) :
    Calls Try.prog 29 #[.pointer (some ⟨C, 0, none⟩)] w (DrawnS C a len cap w) := by
  have hC : C < w.heap.size := lt_of_cell h.c0
  go_enter Try.func29, Try.ntmps29
  go_wp2_with fail
  refine (l1Below_any _ (h.kept ((Below.refl _ _).alloc (Nat.le_refl _) _)) (by omega) (by omega)).mono ?_
  rintro e w2 ⟨x, ⟨hx, hx2⟩, rfl, hc2, hg2⟩
  have hg : w.grownBy w2 (some C) := grown_step (grown_new (grown_refl _ _) _) hg2
  have q0 := kept_cell (b := w.heap.size) (o := 0) hg2 (by go_simp; rfl) (by omega)
  have q1 := kept_cell (b := w.heap.size) (o := 1) hg2 (by go_simp; rfl) (by omega)
  have q2 := kept_cell (b := w.heap.size) (o := 2) hg2 (by go_simp; rfl) (by omega)
  clear hg2
  have hx3 : x = 0 ∨ x = 1 ∨ x = 2 := by omega
  rcases hx3 with rfl | rfl | rfl
  all_goals
    go_wp2
    go_ret
    exact ⟨_, by decide, rfl, hc2, hg⟩

set_option maxHeartbeats 1000000 in
theorem l2DrawAny_any {C : Nat} {a : Option Addr} {len cap : Nat} {w : World} (h : Cur w C a len cap) :
    Calls Try.prog 22 #[.pointer (some ⟨C, 0, none⟩)] w (DrawnS C a len cap w) := by
  go_enter Try.func22, Try.ntmps22
  go_wp2_with fail
  refine (l1Once_any _ h (by omega) (by omega)).mono ?_
  rintro e w1 ⟨t, rfl, hc1, hg1⟩
  have hC : C < w1.heap.size := lt_of_cell hc1.c0
  cases t
  · go_wp2_with fail
    refine (l2Draw_any hc1).mono ?_
    rintro e w2 ⟨s, hs, rfl, hc2, hg2⟩
    go_wp2
    go_ret
    exact ⟨_, hs, rfl, hc2, grown_step hg1 hg2⟩
  · go_wp2_with fail
    refine (l1Below_any _ (hc1.kept ((Below.refl _ _).alloc (Nat.le_refl _) _)) (by omega) (by omega)).mono ?_
    rintro e w2 ⟨x, ⟨hx, hx2⟩, rfl, hc2, hg2⟩
    have hg : w.grownBy w2 (some C) := grown_step hg1 (grown_step (grown_new (grown_refl _ _) _) hg2)
    have q0 := kept_cell (b := w1.heap.size) (o := 0) hg2 (by go_simp; rfl) (by omega)
    have q1 := kept_cell (b := w1.heap.size) (o := 1) hg2 (by go_simp; rfl) (by omega)
    have q2 := kept_cell (b := w1.heap.size) (o := 2) hg2 (by go_simp; rfl) (by omega)
    have q3 := kept_cell (b := w1.heap.size) (o := 3) hg2 (by go_simp; rfl) (by omega)
    have q4 := kept_cell (b := w1.heap.size) (o := 4) hg2 (by go_simp; rfl) (by omega)
    clear hg1 hg2
    have hx3 : x = 0 ∨ x = 1 ∨ x = 2 ∨ x = 3 ∨ x = 4 := by omega
    rcases hx3 with rfl | rfl | rfl | rfl | rfl
    all_goals
      go_wp2
      go_ret
      exact ⟨_, by decide, rfl, hc2, hg⟩

theorem own_grown {w w' : World} {base : Nat} {e : TypeId} {size : Nat} {v : Value} {n : Nat} {xs : List Value} {row : Option Nat} (h : w.ownsRow base e size v n xs) (hg : w.grownBy w' row)
    (hne : ∀ g, base ≤ g → some g ≠ row) : w'.ownsRow base e size v n xs := by
  refine ⟨h.1, ?_⟩
  rcases h.2 with h0 | ⟨g, cap, cur, hv, hb, hh, hr⟩
  · exact .inl h0
  · refine .inr ⟨g, cap, cur, hv, hb, ?_, hr⟩
    have hlt : g < w.heap.size := by
      rcases Nat.lt_or_ge g w.heap.size with hlt | hge
      · exact hlt
      · rw [Array.getElem?_eq_none hge] at hh; cases hh
    rw [hg.block g hlt (hne g hb)]
    exact hh

/-- A right cursor stays right while a row of the call's own turns. -/
theorem Cur.own {w w' : World} {C B : Nat} {a : Option Addr} {len cap : Nat} {row : Option Nat} (h : Cur w C a len cap) (hg : w.grownBy w' row) (hr : ∀ g, row = some g → B ≤ g) (hC : C < B)
    (ha : ∀ b off, a = some ⟨b, off, none⟩ → 0 < len → b < B) : Cur w' C a len cap := by
  have hb : ∀ b, b < B → b < w.heap.size → w'.heap[b]? = w.heap[b]? := fun b h1 h2 => hg.block b h2 (by intro e; have := hr b e.symm; omega)
  have hCw : C < w.heap.size := lt_of_cell h.c0
  have hcc : ∀ o, w'.cell? ⟨C, o, none⟩ = w.cell? ⟨C, o, none⟩ := fun o => World.cell?_of_block (hb C hC hCw)
  obtain ⟨i, hi, h1⟩ := h.c1
  obtain ⟨q, h2⟩ := h.c2
  refine ⟨by rw [hcc]; exact h.c0, ⟨i, hi, by rw [hcc]; exact h1⟩, ⟨q, by rw [hcc]; exact h2⟩, fun o => by rw [World.frozen?_of_block (hb C hC hCw)]; exact h.fz o, ?_, h.far, h.small⟩
  intro k hk
  obtain ⟨b, off, n, e, h0, h3, hc⟩ := h.row k hk
  exact ⟨b, off, n, e, h0, h3, by rw [World.cell?_of_block (hb b (ha b off e (by omega)) (lt_of_cell hc))]; exact hc⟩

theorem Cur.old {w : World} {C : Nat} {a : Option Addr} {len cap : Nat} (h : Cur w C a len cap) : ∀ b off, a = some ⟨b, off, none⟩ → 0 < len → b < w.heap.size := by
  intro b off e hl
  obtain ⟨b', off', n, e', _, _, hc⟩ := h.row 0 hl
  rw [e] at e'
  injection e' with e'
  injection e' with e1
  subst e1
  exact lt_of_cell hc

/-- What a value that owns strings looks like. -/
theorem own_strs {w : World} {base : Nat} {e : TypeId} {v : Value} {ss : List ByteArray} (h : w.ownsRow base e 1 v ss.length (ss.map .string)) :
    ∃ a cap, v = .slice a ss.length cap ∧ Strs w a ss ∧ ∀ b off, a = some ⟨b, off, none⟩ → base ≤ b := by
  rcases h.2 with ⟨rfl, h0⟩ | ⟨g, cap, cur, rfl, hb, hh, _, _, hs, ht⟩
  · have : ss = [] := List.eq_nil_of_length_eq_zero h0
    subst this
    exact ⟨none, 0, rfl, Lies.nil _ _, fun _ _ e => by cases e⟩
  · refine ⟨_, cap, rfl, ?_, fun b off e => by injection e with e; injection e with e1; omega⟩
    intro k v hk
    have hlt := (List.getElem?_eq_some_iff.1 hk).1
    refine ⟨g, 0, rfl, ?_⟩
    rw [← ht, List.getElem?_take_of_lt (by simpa using hlt)] at hk
    simpa [World.cell?, hh] using hk

theorem own_block {w : World} {base : Nat} {e : TypeId} {size : Nat} {v : Value} {n : Nat} {xs : List Value} (h : w.ownsRow base e size v n xs) : ∀ g, v.ownBlock = some g → base ≤ g := by
  intro g hg
  rcases h.2 with ⟨rfl, _⟩ | ⟨g', cap, cur, rfl, hb, _⟩
  · simp [Value.ownBlock] at hg
  · have : g' = g := by simpa [Value.ownBlock] using hg
    omega
theorem grown_own {a b c : World} {C : Nat} {row : Option Nat} (h : a.grownBy b (some C)) (k : b.grownBy c row) (hr : ∀ g, row = some g → a.heap.size ≤ g) : a.grownBy c (some C) :=
  ⟨k.os.trans h.os, k.tape.trans h.tape, k.output.trans h.output, Nat.le_trans h.size k.size, fun i hi hne => (k.block i (Nat.lt_of_lt_of_le hi h.size) (by intro e; have := hr i e.symm; omega)).trans (h.block i hi hne)⟩
theorem Strs.grown {w w' : World} {C : Nat} {a : Option Addr} {ss : List ByteArray} (h : Strs w a ss) (hg : w.grownBy w' (some C)) (far : ∀ b off, a = some ⟨b, off, none⟩ → b ≠ C) : Strs w' a ss := by
  intro k v hk
  obtain ⟨b, off, rfl, hc⟩ := h k v hk
  exact ⟨b, off, rfl, kept_cell hg hc (far b off rfl)⟩

/-- What a draw of a list of strings leaves. -/
def DrawnL (C : Nat) (a : Option Addr) (len cap : Nat) (w : World) (e : Ending) (w' : World) : Prop :=
  ∃ (b : Option Addr) (c : Nat) (ss : List ByteArray), ss.length ≤ 3 ∧ (∀ s ∈ ss, s.size ≤ 7) ∧ e = .returned (.slice b ss.length c) ∧ Strs w' b ss ∧ (∀ g off, b = some ⟨g, off, none⟩ → w.heap.size ≤ g) ∧ Cur w' C a len cap ∧ w.grownBy w' (some C)

/-- The loop's word: what is drawn so far is the call's own. -/
def ListRel (C : Nat) (a : Option Addr) (len cap : Nat) (w : World) (v i : Value) (wr : World) : Prop :=
  ∃ (k : Nat) (ss : List ByteArray), i = .int .i64 k ∧ ss.length + k ≤ 3 ∧ (∀ s ∈ ss, s.size ≤ 7) ∧ wr.ownsRow w.heap.size 9 1 v ss.length (ss.map .string) ∧ Cur wr C a len cap ∧ w.grownBy wr (some C)

theorem info_str : (Try.prog.info? 9).map (fun i => (i.zero, i.size, i.bytes)) = some (some (.string ByteArray.empty), 1, 16) := by kernel_rfl

theorem strs_lit {w : World} {g : Nat} {xs : List ByteArray} (h : ∀ k v, (xs.map Value.string)[k]? = some v → w.cell? ⟨g, k, none⟩ = some v) : Strs w (some ⟨g, 0, none⟩) xs :=
  fun k v hk => ⟨g, 0, rfl, by rw [Nat.zero_add]; exact h k v hk⟩

def names3 : List ByteArray := [⟨#[97, 110, 110]⟩, ⟨#[98, 111, 98]⟩, ⟨#[109, 105, 97]⟩]
theorem names3_at {w : World} {g : Nat} (q0 : w.cell? ⟨g, 0, none⟩ = some (.string ⟨#[97, 110, 110]⟩)) (q1 : w.cell? ⟨g, 1, none⟩ = some (.string ⟨#[98, 111, 98]⟩)) (q2 : w.cell? ⟨g, 2, none⟩ = some (.string ⟨#[109, 105, 97]⟩)) (n : Nat) :
    Strs w (some ⟨g, 0, none⟩) (names3.take n) := by
  refine strs_lit fun k v hk => ?_
  rw [List.map_take, List.getElem?_take] at hk
  split at hk
  · match k, hk with
    | 0, hk => simp [names3] at hk; subst hk; exact q0
    | 1, hk => simp [names3] at hk; subst hk; exact q1
    | 2, hk => simp [names3] at hk; subst hk; exact q2
    | k + 3, hk => simp [names3] at hk
  · cases hk
theorem names3_small (n : Nat) : ∀ s ∈ names3.take n, s.size ≤ 7 := by
  intro s hs
  have := List.mem_of_mem_take hs
  simp [names3] at this
  rcases this with rfl | rfl | rfl <;> decide

set_option maxHeartbeats 2000000 in
theorem l2DrawList_any {C : Nat} {a : Option Addr} {len cap : Nat} {w : World} (h : Cur w C a len cap) :
    Calls Try.prog 21 #[.pointer (some ⟨C, 0, none⟩)] w (DrawnL C a len cap w) := by
  have hC : C < w.heap.size := lt_of_cell h.c0
  have HO := Lib.hid h.old
  have HC := Lib.hid h
  clear h
  obtain ⟨i0, hi, hz0, hz1, hz2⟩ := info_parts info_str
  have HI := Lib.hid hi
  have HZ0 := Lib.hid hz0
  have HZ1 := Lib.hid hz1
  have HZ2 := Lib.hid hz2
  clear hi hz0 hz1 hz2
  go_enter Try.func21, Try.ntmps21
  go_wp2_with fail
  refine (l1Below_any _ (HC.out.kept ((Below.refl _ _).alloc (Nat.le_refl _) _)) (by omega) (by omega)).mono ?_
  rintro e w1 ⟨x, ⟨hx, hx2⟩, rfl, hc1, hg1⟩
  have HR : Hid (ListRel C a len cap w (.slice (some ⟨w.heap.size, 0, none⟩) 0 0) (.int .i64 x) w1) := by
    refine ⟨x.toNat, [], by rw [show ((x.toNat : Nat) : Int) = x by omega], by simp; omega, by simp, ?_, hc1, grown_step (grown_new (grown_refl _ _) _) hg1⟩
    refine own_grown (w := w.alloc (.cells #[] 9)) ⟨by simp, .inr ⟨w.heap.size, 0, #[], rfl, Nat.le_refl _, heap_alloc_new _ _, Nat.le_refl _, Nat.zero_le _, by simp, by simp⟩⟩ hg1 (fun g hg => by intro e; injection e with e; omega)
  clear hg1 hc1
  go_wp2_with fail
  go_loopw [3, 4] (fun v i wr => ListRel C a len cap w v i wr) (fun _ i _ => (intOf i).toNat)
  case atStart => exact HR.out
  case round =>
    clear HR
    obtain ⟨k, ss, rfl, hk, hs, hown, hcur, hgr⟩ := hrel
    have HS := Lib.hid hs
    have HW := Lib.hid hown
    have HU := Lib.hid hcur
    have HG := Lib.hid hgr
    have hCr : C < wr.heap.size := lt_of_cell hcur.c0
    have hwr : w.heap.size ≤ wr.heap.size := hgr.size
    clear hs hown hcur hgr
    cases k with
    | succ j =>
      go_wp2_with fail
      refine (l2DrawAny_any HU.out).mono ?_
      rintro e w2 ⟨s, hsz, rfl, hc2, hg2⟩
      have HW2 := Lib.hid (own_grown HW.out hg2 (fun g hg => by intro e; injection e with e; omega))
      have HB2 := Lib.hid (own_block HW.out)
      have HG2 := Lib.hid (grown_new (grown_step HG.out hg2) (.cells #[.string s] 9))
      have HC2 := Lib.hid (hc2.kept ((Below.refl _ _).alloc (Nat.le_refl _) (.cells #[.string s] 9)))
      have hw2 : w.heap.size ≤ w2.heap.size := Nat.le_trans hwr hg2.size
      clear hc2 hg2
      go_wp2_with (at_builtin; refine wpList_append_lies _ rfl _ _ 24 rfl w.heap.size 9 i0 (.string ByteArray.empty) 1 16 Try.underlying24 HI.out HZ0.out HZ1.out HZ2.out rfl (by decide) _ _ _ rfl (HW2.out.alloc _) ⟨w2.heap.size, 0, none⟩ 1 1 [.string s] rfl rfl ?c1 ?c2 (by decide) ?c3 ?c4 ?c5 _ rfl ?_)
      case c1 =>
        intro j u hj
        match j, hj with
        | 0, hj => simp at hj; subst hj; simp [Addr.add]
      case c2 => intro u hu; simp at hu; subst hu; rfl
      case c3 => unfold maxLen; omega
      case c4 => omega
      case c5 => simp; omega
      intro g c w3 hown3 hgrow hat hlt
      have HR : Hid (ListRel C a len cap w (.slice (some ⟨g, 0, none⟩) (ss.length + 1) c) (.int .i64 (j : Int)) w3) := by
        refine ⟨j, ss ++ [s], rfl, by simp; omega, ?_, by simpa using hown3, HC2.out.own hgrow HB2.out hC HO.out, grown_own HG2.out hgrow HB2.out⟩
        intro t ht
        rcases List.mem_append.1 ht with ht | ht
        · exact HS.out t ht
        · simp at ht; subst ht; exact hsz
      clear hown3 hgrow hat hlt
      go_wp2
      go_roundw
      case rel => first | exact HR.out | (have := HR.out; simpa using this)
      case measure => simp [intOf]
    | zero =>
      obtain ⟨b, c, rfl, hst, hnew⟩ := own_strs HW.out
      have HT := Lib.hid hst
      have HN := Lib.hid hnew
      clear hst hnew
      go_wp2_with fail
      refine (l1Once_any _ HU.out (by omega) (by omega)).mono ?_
      rintro e w2 ⟨t, rfl, hc2, hg2⟩
      have hC2 : C < w2.heap.size := lt_of_cell hc2.c0
      have hw2 : w.heap.size ≤ w2.heap.size := Nat.le_trans hwr hg2.size
      cases t
      · have HD : Hid (DrawnL C a len cap w (.returned (.slice b ss.length c)) w2) :=
          ⟨b, c, ss, by omega, HS.out, rfl, HT.out.grown hg2 (fun g off e => by have := HN.out g off e; omega), HN.out, hc2, grown_step HG.out hg2⟩
        clear hc2 hg2
        go_wp2
        go_ret
        exact HD.out
      · have HG2 := Lib.hid (grown_step HG.out hg2)
        clear hg2
        go_wp2_with fail
        refine (l1Below_any _ (hc2.kept ((Below.refl _ _).alloc (Nat.le_refl _) _)) (by omega) (by omega)).mono ?_
        rintro e w3 ⟨x, ⟨hx, hx2⟩, rfl, hc3, hg3⟩
        have HG3 := Lib.hid (grown_step HG2.out (grown_step (grown_new (grown_refl _ _) _) hg3))
        have q0 := kept_cell (b := w2.heap.size) (o := 0) hg3 (by go_simp; rfl) (by omega)
        have q1 := kept_cell (b := w2.heap.size) (o := 1) hg3 (by go_simp; rfl) (by omega)
        have q2 := kept_cell (b := w2.heap.size) (o := 2) hg3 (by go_simp; rfl) (by omega)
        have HC3 := Lib.hid hc3
        clear hg3 hc3 hc2
        have HD := fun (n : Nat) (hn : n ≤ 3) => Lib.hid (show DrawnL C a len cap w (.returned (.slice (some ⟨w2.heap.size, 0, none⟩) (names3.take n).length 3)) w3 from
          ⟨some ⟨w2.heap.size, 0, none⟩, 3, names3.take n, by simp; omega, names3_small n, rfl, names3_at q0 q1 q2 n, fun g off e => by injection e with e; injection e with e1; omega, HC3.out, HG3.out⟩)
        have H0 := HD 0 (by omega)
        have H1 := HD 1 (by omega)
        have H2 := HD 2 (by omega)
        have H3 := HD 3 (by omega)
        clear HD
        have hx3 : x = 0 ∨ x = 1 ∨ x = 2 ∨ x = 3 := by omega
        rcases hx3 with rfl | rfl | rfl | rfl
        · go_wp2; go_ret; exact H0.out
        · go_wp2; go_ret; exact H1.out
        · go_wp2; go_ret; exact H2.out
        · go_wp2; go_ret; exact H3.out

/-- What a draw of a name leaves for a law. -/
def GivesS (w : World) (e : Ending) (w' : World) : Prop := ∃ s : ByteArray, s.size ≤ 7 ∧ e = .returned (.string s) ∧ Below w.heap.size w w'
/-- What a draw of a list of strings leaves for a law. -/
def GivesL (w : World) (e : Ending) (w' : World) : Prop :=
  ∃ (b : Option Addr) (c : Nat) (ss : List ByteArray), ss.length ≤ 3 ∧ (∀ s ∈ ss, s.size ≤ 7) ∧ e = .returned (.slice b ss.length c) ∧ Strs w' b ss ∧ Below w.heap.size w w'
/-- What a draw of a list and a string leaves for a law. -/
def GivesLS (w : World) (e : Ending) (w' : World) : Prop :=
  ∃ (b : Option Addr) (c : Nat) (ss : List ByteArray) (s : ByteArray), ss.length ≤ 3 ∧ (∀ s ∈ ss, s.size ≤ 7) ∧ s.size ≤ 7 ∧ e = .returned (.tuple #[.slice b ss.length c, .string s]) ∧ Strs w' b ss ∧ Below w.heap.size w w'

theorem drawNameOk_any {a : Option Addr} {len cap : Nat} {w : World} (h : Src w a len) : Calls Try.prog 12 #[.slice a len cap] w (GivesS w) := by
  go_enter Try.func12, Try.ntmps12
  go_wp2_with fail
  refine (l1New_any h.row h.small).mono ?_
  rintro e w0 ⟨rfl, hc0, hb0⟩
  go_wp2_with fail
  refine (l2DrawAny_any hc0).mono ?_
  rintro e w1 ⟨s, hs, rfl, hc1, hg1⟩
  go_wp2
  go_ret
  exact ⟨s, hs, rfl, below_of hb0 hg1⟩

theorem drawRises_any {a : Option Addr} {len cap : Nat} {w : World} (h : Src w a len) : Calls Try.prog 10 #[.slice a len cap] w (GivesL w) := by
  go_enter Try.func10, Try.ntmps10
  go_wp2_with fail
  refine (l1New_any h.row h.small).mono ?_
  rintro e w0 ⟨rfl, hc0, hb0⟩
  go_wp2_with fail
  refine (l2DrawList_any hc0).mono ?_
  rintro e w1 ⟨b, c, ss, hl, hs, rfl, hst, hn, hc1, hg1⟩
  have HD := Lib.hid (show GivesL w (.returned (.slice b ss.length c)) w1 from ⟨b, c, ss, hl, hs, rfl, hst, below_of hb0 hg1⟩)
  clear hl hs hst hn hc1 hg1 hb0 hc0
  go_wp2
  go_ret
  exact HD.out

set_option maxHeartbeats 1000000 in
theorem drawPlaceIn_any {a : Option Addr} {len cap : Nat} {w : World} (h : Src w a len) : Calls Try.prog 8 #[.slice a len cap] w (GivesLS w) := by
  go_enter Try.func8, Try.ntmps8
  go_wp2_with fail
  refine (l1New_any h.row h.small).mono ?_
  rintro e w0 ⟨rfl, hc0, hb0⟩
  have hC : w.heap.size < w0.heap.size := lt_of_cell hc0.c0
  go_wp2_with fail
  refine (l2DrawList_any hc0).mono ?_
  rintro e w1 ⟨b, c, ss, hl, hs, rfl, hst, hn, hc1, hg1⟩
  have HL := Lib.hid hs
  have HT := Lib.hid hst
  have HN := Lib.hid hn
  have HB := Lib.hid (below_of hb0 hg1)
  clear hs hst hn hg1 hb0 hc0
  go_wp2_with fail
  refine (l2DrawAny_any hc1).mono ?_
  rintro e w2 ⟨s, hs, rfl, hc2, hg2⟩
  have HD := Lib.hid (show GivesLS w (.returned (.tuple #[.slice b ss.length c, .string s])) w2 from ⟨b, c, ss, s, hl, HL.out, hs, rfl, HT.out.grown hg2 (fun g off e => by have := HN.out g off e; omega), below_of HB.out hg2⟩)
  clear hc2 hg2
  go_wp2
  go_ret2
  exact HD.out
end Go.Proofs.Ytpdafjfcjifgnaa
