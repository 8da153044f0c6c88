/-
  What the draws of chapter 5 return, whatever the bytes: parts of short names; nothing that was there turns, but for the cursor.
-/
import Derived.Test.YtpmibegfpfjdgaaPartG
import Derived.Test.YtpmibegfpfjdgaaDraw2
import Derived.Test.YtpmibegfpfjdgaaDrawR
import Derived.Deep.RegionWith
namespace Go.Proofs.Ytpmibegfpfjdgaa
open Go.ChangeShapes Go.WideShapes Go.ChangeAt Go.RowKit

/-- Short names. -/
def PShort (p : Par) : Prop := p.who.size ≤ 7 ∧ p.mill.size ≤ 7
/-- Any number. -/
def AnyN (_ : Int) : Prop := True

set_option maxHeartbeats 1000000 in
set_option maxRecDepth 100000 in
theorem l5DrawN_any {C : Nat} {a : Option Addr} {len cap : Nat} {w : World} (h : Cur w C a len cap) :
    Calls Try.prog 37 #[.pointer (some ⟨C, 0, none⟩)] w (Drawn C a len cap AnyN w) := by
  go_enter Try.func37, Try.ntmps37
  go_wp2_with fail
  refine (l1Once_any _ h (by omega) (by omega)).mono ?_
  rintro e w1 ⟨t, rfl, hc1, hg1⟩
  have hC : C < w1.heap.size := lt_of_cell hc1.c0
  cases t
  · go_wp2_with fail
    refine (l1Below_any _ hc1 (by omega) (by omega)).mono ?_
    rintro e w2 ⟨x, ⟨hx, hx2⟩, rfl, hc2, hg2⟩
    go_wp2
    go_ret
    exact ⟨_, trivial, rfl, hc2, grown_step hg1 hg2⟩
  · go_wp2_with fail
    refine (l1Below_any _ (hc1.kept ((Below.refl _ _).alloc (Nat.le_refl _) _)) (by omega) (by omega)).mono ?_
    rintro e w2 ⟨x, ⟨hx, hx2⟩, rfl, hc2, hg2⟩
    have hg : w.grownBy w2 (some C) := grown_step hg1 (grown_step (grown_new (grown_refl _ _) _) hg2)
    have q0 := kept_cell (b := w1.heap.size) (o := 0) hg2 (by go_simp; rfl) (by omega)
    have q1 := kept_cell (b := w1.heap.size) (o := 1) hg2 (by go_simp; rfl) (by omega)
    have q2 := kept_cell (b := w1.heap.size) (o := 2) hg2 (by go_simp; rfl) (by omega)
    have q3 := kept_cell (b := w1.heap.size) (o := 3) hg2 (by go_simp; rfl) (by omega)
    clear hg1 hg2
    have hx3 : x = 0 ∨ x = 1 ∨ x = 2 ∨ x = 3 := by omega
    rcases hx3 with rfl | rfl | rfl | rfl
    all_goals
      go_wp2
      go_ret
      exact ⟨_, trivial, rfl, hc2, hg⟩

def twoS : List ByteArray := [⟨#[97, 110, 110]⟩, ⟨#[109, 105, 97]⟩]
theorem pick2 (j : Nat) (hj : j < 2) : ∃ pv : ByteArray, (#[Value.string ⟨#[97, 110, 110]⟩, .string ⟨#[109, 105, 97]⟩] : Array Value)[j]? = some (.string pv) ∧ pv.size ≤ 7 := by
  match j, hj with
  | 0, _ => exact ⟨_, rfl, by decide⟩
  | 1, _ => exact ⟨_, rfl, by decide⟩
theorem setSh_mem {ps : List Par} {k : Nat} {v : Int} {p : Par} (h : p ∈ setSh ps k v) : ∃ q ∈ ps, p.who = q.who ∧ p.mill = q.mill := by
  obtain ⟨j, hj, rfl⟩ := List.getElem_of_mem h
  have hj' : j < ps.length := by rw [setSh_length] at hj; exact hj
  obtain ⟨e1, e2, -⟩ := setSh_at ps k v j hj
  rw [patn_eq hj'] at e1 e2
  exact ⟨ps[j], List.getElem_mem hj', e1, e2⟩
theorem gaveL_short {ps : List Par} (h : ∀ p ∈ ps, PShort p) {who mill : ByteArray} (hw : who.size ≤ 7) (hm : mill.size ≤ 7) (n : Int) : ∀ p ∈ gaveL ps who mill n, PShort p := by
  intro p hp
  unfold gaveL at hp
  split at hp
  · split at hp
    · unfold giveAt at hp
      split at hp
      · obtain ⟨q, hq, e1, e2⟩ := setSh_mem hp
        unfold PShort; rw [e1, e2]; exact h q hq
      · simp only [List.mem_append, List.mem_singleton] at hp
        rcases hp with (hp | rfl) | hp
        · exact h p (List.mem_of_mem_take hp)
        · exact ⟨hw, hm⟩
        · exact h p (List.mem_of_mem_drop hp)
    · exact h p hp
  · simp at hp
theorem gaveL_more (ps : List Par) (who mill : ByteArray) (n : Int) : (gaveL ps who mill n).length ≤ ps.length + 1 := by
  unfold gaveL
  split
  · split
    · exact giveAt_le ps who mill n
    · omega
  · simp
theorem short_sized {ps : List Par} (h : ∀ p ∈ ps, PShort p) : PSized ps :=
  psized_mem.2 fun p hp => ⟨Nat.le_trans (h p hp).1 (by unfold maxLen; omega), Nat.le_trans (h p hp).2 (by unfold maxLen; omega)⟩
theorem OwnG.new {α : Type} {f : α → List Value} {c : Nat} {T : TypeId} {Z : α → Prop} {C : Nat} {a : Option Addr} {len cap : Nat} {w : World} {g cp : Nat} {xs : List α} {w' : World} (h : OwnG f c T Z C a len cap w g cp xs w') (o : Obj) : OwnG f c T Z C a len cap w g cp xs (w'.alloc o) :=
  ⟨h.own.alloc o, h.all, h.cur.kept (below_new _ _), grown_new h.grown o⟩
/-- A call that gives back a list of its own, in a draw. -/
theorem OwnG.turn {α : Type} {f : α → List Value} {c : Nat} {T : TypeId} {Z : α → Prop} {C : Nat} {a : Option Addr} {len cap : Nat} {w : World} {g cp : Nat} {xs : List α} {w' w2 : World} {g2 c2 : Nat} {ys : List α} (h : OwnG f c T Z C a len cap w g cp xs w') (ho : w2.ownsRow w'.heap.size T c (.slice (some ⟨g2, 0, none⟩) ys.length c2) ys.length (ys.flatMap f)) (hb : Below w'.heap.size w' w2) (hz : ∀ y ∈ ys, Z y) : OwnG f c T Z C a len cap w g2 c2 ys w2 :=
  ⟨own_down ho h.grown.size, hz, h.cur.kept hb, grown_step h.grown (below_grown hb _)⟩

/-- The number that is drawn of two, and the name of that number. -/
def Two (j : Nat) (pv : ByteArray) : Prop := j < 2 ∧ pv.size ≤ 7 ∧ (#[Value.string ⟨#[97, 110, 110]⟩, .string ⟨#[109, 105, 97]⟩] : Array Value)[j]? = some (.string pv) ∧ ([Value.string ⟨#[97, 110, 110]⟩, .string ⟨#[109, 105, 97]⟩] : List Value)[j]? = some (.string pv)
theorem two_of {z : Int} (h : 0 ≤ z) (h2 : z < 2) : ∃ j : Nat, ∃ pv, z = j ∧ Two j pv := by
  obtain ⟨j, rfl⟩ : ∃ j : Nat, z = j := ⟨z.toNat, by omega⟩
  obtain ⟨pv, hpk, hpz⟩ := pick2 j (by omega)
  exact ⟨j, pv, rfl, by omega, hpz, hpk, by rw [List.getElem?_toArray] at hpk; exact hpk⟩
theorem Two.cell {j : Nat} {pv : ByteArray} (h : Two j pv) (w : World) : (w.alloc (.cells #[.string ⟨#[97, 110, 110]⟩, .string ⟨#[109, 105, 97]⟩] 9)).cell? ⟨w.heap.size, j, none⟩ = some (.string pv) := by
  simp only [World.cell?, heap_alloc_new]; exact h.2.2.1
section
variable {C : Nat} {a : Option Addr} {len cap : Nat} {w : World} {g cp : Nat} {xs : List Par} {w3 w4 : World}
theorem drawA (hC : C < w.heap.size) (h : OwnG Par.cs 3 37 PShort C a len cap w g cp xs w3) : Calls Try.prog 36 #[.pointer (some ⟨C, 0, none⟩), .int .i64 2] w3.drew fun e w4 => ∃ j pv, e = .returned (.int .i64 (j : Nat)) ∧ Two j pv ∧ OwnG Par.cs 3 37 PShort C a len cap w g cp xs w4 := by
  refine (l1Below_any 2 (h.cur.kept (below_draws (Below.refl _ _) 1)) (by decide) (by decide)).mono ?_
  rintro e w4 ⟨z, ⟨hz, hz2⟩, rfl, hc4, hg4⟩
  obtain ⟨j, pv, rfl, ht⟩ := two_of hz hz2
  exact ⟨j, pv, rfl, ht, h.draw hC hc4 (undrew hg4)⟩
theorem drawB (hC : C < w.heap.size) (h : OwnG Par.cs 3 37 PShort C a len cap w g cp xs w3) : Calls Try.prog 36 #[.pointer (some ⟨C, 0, none⟩), .int .i64 2] (w3.alloc (.cells #[.string ⟨#[97, 110, 110]⟩, .string ⟨#[109, 105, 97]⟩] 9)).drew fun e w4 => ∃ j pv, e = .returned (.int .i64 (j : Nat)) ∧ Two j pv ∧ w4.cell? ⟨w3.heap.size, j, none⟩ = some (.string pv) ∧ OwnG Par.cs 3 37 PShort C a len cap w g cp xs w4 := by
  refine (l1Below_any 2 (h.cur.kept (below_draws (below_new _ _) 1)) (by decide) (by decide)).mono ?_
  rintro e w4 ⟨z, ⟨hz, hz2⟩, rfl, hc4, hg4⟩
  obtain ⟨j, pv, rfl, ht⟩ := two_of hz hz2
  have hlo := h.lo
  exact ⟨j, pv, rfl, ht, kept_cell (undrew hg4) (ht.cell w3) (by omega), (h.new _).draw hC hc4 (undrew hg4)⟩
/-- The second number. -/
theorem drawC (hC : C < w.heap.size) (h : OwnG Par.cs 3 37 PShort C a len cap w g cp xs w4) : Calls Try.prog 36 #[.pointer (some ⟨C, 0, none⟩), .int .i64 60] w4 fun e w5 => ∃ y, e = .returned (.int .i64 y) ∧ (0 ≤ y ∧ y < 60) ∧ IntKind.i64.wrap (1 + y) = 1 + y ∧ OwnG Par.cs 3 37 PShort C a len cap w g cp xs w5 ∧ ∀ b o v, b ≠ C → w4.cell? ⟨b, o, none⟩ = some v → w5.cell? ⟨b, o, none⟩ = some v := by
  refine (l1Below_any 60 h.cur (by decide) (by decide)).mono ?_
  rintro e w5 ⟨y, ⟨hy, hy2⟩, rfl, hc5, hg5⟩
  exact ⟨y, rfl, ⟨hy, hy2⟩, IntWalk.i64_in _ (by omega), h.draw hC hc5 hg5, fun b o v hb hv => kept_cell hg5 hv hb⟩
/-- And the list is given one more. -/
theorem drawG (h : OwnG Par.cs 3 37 PShort C a len cap w g cp xs w4) (hx : xs.length ≤ 5) {s pv : ByteArray} (hs : s.size ≤ 7) (hp : pv.size ≤ 7) (n : Int) : Calls Try.prog 17 #[.slice (some ⟨g, 0, none⟩) xs.length cp, .string s, .string pv, .int .i64 n] w4 fun e w5 => ∃ g' c' ys, e = .returned (.tuple #[.slice (some ⟨g', 0, none⟩) ys.length c', .bool (gaveB xs s pv n)]) ∧ ys.length ≤ xs.length + 1 ∧ OwnG Par.cs 3 37 PShort C a len cap w g' c' ys w5 := by
  refine (sGave_any cp s pv n (h.lies Par.len) (own_some h.own).2.1 (by omega) (short_sized h.all) (Nat.le_trans hs (by unfold maxLen; omega)) (Nat.le_trans hp (by unfold maxLen; omega))).mono ?_
  rintro e w6 ⟨g6, c6, rfl, ho6, hb6⟩
  exact ⟨g6, c6, _, rfl, gaveL_more _ _ _ _, h.turn ho6 hb6 (gaveL_short h.all hs hp _)⟩
end

/-- The list of a draw. -/
def DrawnP (C : Nat) (a : Option Addr) (len cap : Nat) (w : World) (m : Nat) (e : Ending) (w' : World) : Prop :=
  ∃ g cp xs, e = .returned (.slice (some ⟨g, 0, none⟩) xs.length cp) ∧ xs.length ≤ m ∧ OwnG Par.cs 3 37 PShort C a len cap w g cp xs w'
/-- Between the rounds. -/
def DrawRel (C : Nat) (a : Option Addr) (len cap : Nat) (w : World) (v i : Value) (wr : World) : Prop :=
  ∃ g cp xs, ∃ k : Nat, v = .slice (some ⟨g, 0, none⟩) xs.length cp ∧ i = .int .i64 k ∧ xs.length + k ≤ 5 ∧ OwnG Par.cs 3 37 PShort C a len cap w g cp xs wr

set_option maxHeartbeats 8000000 in
set_option maxRecDepth 100000 in
theorem l5Draw_any {C : Nat} {a : Option Addr} {len cap : Nat} {w : World} (h : Cur w C a len cap) :
    Calls Try.prog 33 #[.pointer (some ⟨C, 0, none⟩)] w (DrawnP C a len cap w 6) := by
  have hC : C < w.heap.size := lt_of_cell h.c0
  have HA := Lib.hid h.old
  have HC0 := Lib.hid (h.kept (below_new w (.cells #[] 37)))
  clear h
  obtain ⟨i0, hi, hz0, hz1, hz2⟩ := info_parts info_Part
  have HI := Lib.hid hi
  have HZ0 := Lib.hid hz0
  have HZ1 := Lib.hid hz1
  have HZ2 := Lib.hid hz2
  clear hi hz0 hz1 hz2
  go_enter Try.func33, Try.ntmps33
  go_wp2_with fail
  refine (l1Below_any _ HC0.out (by omega) (by omega)).mono ?_
  rintro e w1 ⟨x, ⟨hx, hx2⟩, rfl, hc1, hg1⟩
  obtain ⟨k, rfl⟩ : ∃ k : Nat, x = k := ⟨x.toNat, by omega⟩
  have HR0 : Hid (DrawRel C a len cap w (.slice (some ⟨w.heap.size, 0, none⟩) 0 0) (.int .i64 k) w1) := by
    have ho := ownG_lit (f := Par.cs) (c := 3) (T := 37) (Z := PShort) (w := w) Par.len hC (grown_refl w _) [] (by simp) (by simp) hc1 (by simpa using hg1) 0 (Nat.le_refl _)
    exact ⟨w.heap.size, 0, [], k, rfl, rfl, by simp; omega, by simpa using ho⟩
  clear hc1 hg1
  go_wp2_with fail
  go_loopw [3, 4] (fun v i wr => DrawRel C a len cap w v i wr) (fun _ i _ => (intOf i).toNat)
  case atStart => exact HR0.out
  case round =>
    clear HR0 hx hx2
    obtain ⟨g, cp, xs, i, rfl, rfl, hxl, hG⟩ := hrel
    have HG := Lib.hid hG
    clear hG
    by_cases hi0 : 0 < i
    · go_wp2_with fail
      refine (l2Draw_any HG.out.cur).mono ?_
      rintro e w3 ⟨s, hs, rfl, hc3, hg3⟩
      have HG3 := Lib.hid (HG.out.draw hC hc3 hg3)
      clear hc3 hg3 HG
      have hlo := HG3.out.lo
      have HSS := Lib.hid hs
      have HX5 := Lib.hid (show xs.length ≤ 5 by omega)
      clear hs
      go_wp2_with fail
      go_region_with (first
        | (go_at_call 36; first
          | ((with_reducible refine (drawB hC HG3.out).mono ?_); rintro e w4 ⟨j, pv, rfl, ht, l4, hG4⟩; have HT := Lib.hid ht; obtain ⟨hj0, hpz, hpk, hpk2⟩ := ht; have hj : (j : Int) < 2 := (by omega); clear hj0; have HPZ := Lib.hid hpz; clear hpz; have HG4 := Lib.hid hG4; clear hG4)
          | ((with_reducible refine (drawA hC HG3.out).mono ?_); rintro e w4 ⟨j, pv, rfl, ht, hG4⟩; have HT := Lib.hid ht; obtain ⟨hj0, hpz, hpk, hpk2⟩ := ht; have hj : (j : Int) < 2 := (by omega); clear hj0; have HPZ := Lib.hid hpz; clear hpz; have HG4 := Lib.hid hG4; clear hG4)
          | ((with_reducible refine (drawC hC HG4.out).mono ?_); rintro e w5 ⟨y, rfl, ⟨hy, hy2⟩, hwr, hG5, hk5⟩; (try have l5 := hk5 _ _ _ (by have := HG3.out.lo; omega) l4); have HG5 := Lib.hid hG5; clear hG5 hk5)
          | ((with_reducible refine (drawC hC (HG4.out.new (.cells #[.string ⟨#[97, 110, 110]⟩, .string ⟨#[109, 105, 97]⟩] 9))).mono ?_); rintro e w5 ⟨y, rfl, ⟨hy, hy2⟩, hwr, hG5, hk5⟩; have l5 := hk5 _ _ _ (by have := HG4.out.lo; omega) (HT.out.cell w4); have HG5 := Lib.hid hG5; clear hG5 hk5))
        | (go_at_call 17; first
          | ((with_reducible refine (drawG HG5.out HX5.out HSS.out HPZ.out (1 + y)).mono ?_); rintro e w6 ⟨g6, c6, ys, rfl, hys, hG6⟩; have HG6 := Lib.hid hG6; clear hG6)
          | ((with_reducible refine (drawG (HG5.out.new (.cells #[.string ⟨#[97, 110, 110]⟩, .string ⟨#[109, 105, 97]⟩] 9)) HX5.out HSS.out HPZ.out (1 + y)).mono ?_); rintro e w6 ⟨g6, c6, ys, rfl, hys, hG6⟩; have HG6 := Lib.hid hG6; clear hG6)))
      all_goals
        go_wp2
        go_roundw
        case rel => exact ⟨g6, c6, _, i - 1, rfl, by go_num, by omega, HG6.out⟩
        case measure => simp [intOf]; omega
    · obtain rfl : i = 0 := by omega
      go_wp2_with fail
      refine (l1Once_any _ HG.out.cur (by omega) (by omega)).mono ?_
      rintro e w3 ⟨t, rfl, hc3, hg3⟩
      have HG3 := Lib.hid (HG.out.draw hC hc3 hg3)
      clear hc3 hg3 HG
      cases t
      · have HN := Lib.hid (show DrawnP C a len cap w 6 (.returned (.slice (some ⟨g, 0, none⟩) xs.length cp)) w3 from ⟨g, cp, xs, rfl, by omega, HG3.out⟩)
        go_wp2
        go_ret
        exact HN.out
      · go_wp2_with fail
        refine (l2DrawAny_any HG3.out.cur).mono ?_
        rintro e w4 ⟨s, hs, rfl, hc4, hg4⟩
        have HG4 := Lib.hid (HG3.out.draw hC hc4 hg4)
        have HS4 := Lib.hid hs
        clear hc4 hg4 hs HG3
        go_wp2_with fail
        refine (l2DrawAny_any HG4.out.cur).mono ?_
        rintro e w5 ⟨t, ht, rfl, hc5, hg5⟩
        have HG5 := Lib.hid (HG4.out.draw hC hc5 hg5)
        have HS5 := Lib.hid ht
        clear hc5 hg5 ht HG4
        go_wp2_with fail
        refine (l5DrawN_any HG5.out.cur).mono ?_
        rintro e w6 ⟨n, -, rfl, hc6, hg6⟩
        have HG6 := Lib.hid ((HG5.out.draw hC hc6 hg6).new (.cells #[.string s, .string t, .int .i64 n] 37))
        clear hc6 hg6 HG5
        go_wp2_with (at_builtin; refine wpList_append_some rfl _ _ 24 rfl w.heap.size 37 i0 (.agg #[.string ByteArray.empty, .string ByteArray.empty, .int .i64 0]) 3 40 Try.underlying24 HI.out HZ0.out HZ1.out HZ2.out rfl (by decide) g cp xs.length (xs.flatMap Par.cs) rfl HG6.out.own ⟨w6.heap.size, 0, none⟩ 1 1 (Par.cs ⟨s, t, n⟩) rfl rfl ?c1 (Par.one _) ?c2 ?c3 ?_)
        case c1 =>
          intro j u hj
          rw [add_plain]
          have := RecAt.new Par.cs w6 (⟨s, t, n⟩ : Par) 37 j u hj
          rw [Nat.zero_add]; exact this
        case c2 => unfold maxLen; omega
        case c3 => omega
        rintro g7 c7 w7 ⟨h7, h7g, h7b, h7l, h7x⟩
        have HN := Lib.hid (show DrawnP C a len cap w 6 (.returned (.slice (some ⟨g7, 0, none⟩) (xs.length + 1) c7)) w7 from by
          refine ⟨g7, c7, xs ++ [⟨s, t, n⟩], by simp, by simp; omega, ?_⟩
          exact HG6.out.more hC HA.out rfl rfl (by intro y hy; simp only [List.mem_singleton] at hy; subst hy; exact ⟨HS4.out, HS5.out⟩) HG6.out.cur HG6.out.grown cp (by simpa using h7) h7g)
        clear h7 h7g h7b h7l h7x
        go_wp2
        go_ret
        exact HN.out

/-- A list that was drawn. -/
structure GotP (w' : World) (g c : Nat) (xs : List Par) : Prop where
  lies : Recs Par.cs w' (some ⟨g, 0, none⟩) xs
  fits : xs.length ≤ c
  few : xs.length ≤ 6
  short : ∀ p ∈ xs, PShort p
theorem GotP.below {w w' : World} {g c : Nat} {xs : List Par} (h : GotP w g c xs) (hb : Below w.heap.size w w') : GotP w' g c xs := ⟨h.lies.below hb, h.fits, h.few, h.short⟩
theorem got_of {C : Nat} {a : Option Addr} {len cap : Nat} {w w' : World} {g cp : Nat} {xs : List Par} (h : OwnG Par.cs 3 37 PShort C a len cap w g cp xs w') (hx : xs.length ≤ 6) : GotP w' g cp xs :=
  ⟨h.lies Par.len, (own_some h.own).2.1, hx, h.all⟩
/-- What DrawGave and DrawTook give. -/
def GivesP4 (w : World) (e : Ending) (w' : World) : Prop :=
  ∃ g c xs s t n, e = .returned (.tuple #[.slice (some ⟨g, 0, none⟩) xs.length c, .string s, .string t, .int .i64 n]) ∧ GotP w' g c xs ∧ s.size ≤ 7 ∧ t.size ≤ 7 ∧ Below w.heap.size w w'
/-- What DrawPartsFor gives. -/
def GivesP2 (w : World) (e : Ending) (w' : World) : Prop :=
  ∃ g c xs s, e = .returned (.tuple #[.slice (some ⟨g, 0, none⟩) xs.length c, .string s]) ∧ GotP w' g c xs ∧ s.size ≤ 7 ∧ Below w.heap.size w w'

set_option maxHeartbeats 1000000 in
set_option maxRecDepth 100000 in
theorem drawPartsFor_any {a : Option Addr} {len cap : Nat} {w : World} (h : Src w a len) : Calls Try.prog 15 #[.slice a len cap] w (GivesP2 w) := by
  go_enter Try.func15, Try.ntmps15
  go_wp2_with fail
  refine (l1New_any h.row h.small).mono ?_
  rintro e w0 ⟨rfl, hc0, hb0⟩
  have hC : w.heap.size < w0.heap.size := lt_of_cell hc0.c0
  have HB0 := Lib.hid hb0
  clear hb0
  go_wp2_with fail
  refine (l5Draw_any hc0).mono ?_
  rintro e w1 ⟨g, cp, xs, rfl, hx, hG⟩
  have HG := Lib.hid hG
  clear hG hc0
  go_wp2_with fail
  refine (l2DrawAny_any HG.out.cur).mono ?_
  rintro e w2 ⟨s, hs, rfl, hc2, hg2⟩
  have hG2 := HG.out.draw hC hc2 hg2
  have HD := Lib.hid (show GivesP2 w (.returned (.tuple #[.slice (some ⟨g, 0, none⟩) xs.length cp, .string s])) w2 from ⟨g, cp, xs, s, rfl, got_of hG2 hx, hs, below_of HB0.out hG2.grown⟩)
  clear hc2 hg2 hG2
  go_wp2
  go_ret2
  exact HD.out

set_option maxHeartbeats 2000000 in
set_option maxRecDepth 100000 in
theorem drawGave_any {a : Option Addr} {len cap : Nat} {w : World} (h : Src w a len) : Calls Try.prog 11 #[.slice a len cap] w (GivesP4 w) := by
  go_enter Try.func11, Try.ntmps11
  go_wp2_with fail
  refine (l1New_any h.row h.small).mono ?_
  rintro e w0 ⟨rfl, hc0, hb0⟩
  have hC : w.heap.size < w0.heap.size := lt_of_cell hc0.c0
  have HB0 := Lib.hid hb0
  clear hb0
  go_wp2_with fail
  refine (l5Draw_any hc0).mono ?_
  rintro e w1 ⟨g, cp, xs, rfl, hx, hG⟩
  have HG := Lib.hid hG
  clear hG hc0
  go_wp2_with fail
  refine (l2DrawAny_any HG.out.cur).mono ?_
  rintro e w2 ⟨s, hs, rfl, hc2, hg2⟩
  have HG2 := Lib.hid (HG.out.draw hC hc2 hg2)
  have HS := Lib.hid hs
  clear hc2 hg2 hs HG
  go_wp2_with fail
  refine (l2DrawAny_any HG2.out.cur).mono ?_
  rintro e w3 ⟨t, ht, rfl, hc3, hg3⟩
  have HG3 := Lib.hid (HG2.out.draw hC hc3 hg3)
  have HT := Lib.hid ht
  clear hc3 hg3 ht HG2
  have HD : Hid (∀ (s t : ByteArray) (n : Int) (W : World), s.size ≤ 7 → t.size ≤ 7 → OwnG Par.cs 3 37 PShort w.heap.size a len cap w0 g cp xs W → GivesP4 w (.returned (.tuple #[.slice (some ⟨g, 0, none⟩) xs.length cp, .string s, .string t, .int .i64 n])) W) :=
    fun s t n W hs ht hG => ⟨g, cp, xs, s, t, n, rfl, got_of hG hx, hs, ht, below_of HB0.out hG.grown⟩
  by_cases hpos : 0 < xs.length
  · have hp' : decide ((0 : Int) < (xs.length : Int)) = true := by simp; omega
    go_wp2_with fail
    refine (l1Once_any _ HG3.out.cur (by omega) (by omega)).mono ?_
    rintro e w4 ⟨q, rfl, hc4, hg4⟩
    have HG4 := Lib.hid (HG3.out.draw hC hc4 hg4)
    clear hc4 hg4 HG3
    cases q
    · go_wp2_with fail
      refine (l5DrawN_any HG4.out.cur).mono ?_
      rintro e w5 ⟨n, -, rfl, hc5, hg5⟩
      have HN := Lib.hid (HD.out s t n w5 HS.out HT.out (HG4.out.draw hC hc5 hg5))
      clear hc5 hg5
      go_wp2
      exact bodyPost_ret (v := .tuple #[.slice (some ⟨g, 0, none⟩) xs.length cp, .string s, .string t, .int .i64 n]) (by simp [results, Try.results11, go_sem]) rfl HN.out
    · go_wp2_with fail
      refine (l1Below_any _ HG4.out.cur (by omega) (by omega)).mono ?_
      rintro e w5 ⟨z, ⟨hz, hz2⟩, rfl, hc5, hg5⟩
      have HG5 := Lib.hid (HG4.out.draw hC hc5 hg5)
      clear hc5 hg5 HG4
      obtain ⟨k, rfl⟩ : ∃ k : Nat, z = k := ⟨z.toNat, by omega⟩
      have hk : k < xs.length := by omega
      obtain ⟨b', off', e', hlb, c0, c1, -⟩ := Par.at (HG5.out.lies Par.len) k hk
      injection e' with e'; injection e' with e1 e2; subst e1; subst e2
      simp only [Nat.zero_add] at c0 c1
      have HPS := Lib.hid (HG5.out.all xs[k] (List.getElem_mem hk))
      go_wp2_with fail
      refine (l5DrawN_any HG5.out.cur).mono ?_
      rintro e w6 ⟨n, -, rfl, hc6, hg6⟩
      have HN := Lib.hid (HD.out xs[k].who xs[k].mill n w6 HPS.out.1 HPS.out.2 (HG5.out.draw hC hc6 hg6))
      clear hc6 hg6
      go_wp2
      exact bodyPost_ret (v := .tuple #[.slice (some ⟨g, 0, none⟩) xs.length cp, .string xs[k].who, .string xs[k].mill, .int .i64 n]) (by simp [results, Try.results11, go_sem]) rfl HN.out
  · have hp' : decide ((0 : Int) < (xs.length : Int)) = false := by rw [show xs.length = 0 by omega]; rfl
    go_wp2_with fail
    refine (l5DrawN_any HG3.out.cur).mono ?_
    rintro e w5 ⟨n, -, rfl, hc5, hg5⟩
    have HN := Lib.hid (HD.out s t n w5 HS.out HT.out (HG3.out.draw hC hc5 hg5))
    clear hc5 hg5
    go_wp2
    exact bodyPost_ret (v := .tuple #[.slice (some ⟨g, 0, none⟩) xs.length cp, .string s, .string t, .int .i64 n]) (by simp [results, Try.results11, go_sem]) rfl HN.out

set_option maxHeartbeats 2000000 in
set_option maxRecDepth 100000 in
theorem drawTook_any {a : Option Addr} {len cap : Nat} {w : World} (h : Src w a len) : Calls Try.prog 13 #[.slice a len cap] w (GivesP4 w) := by
  have H := Lib.hid h
  clear h
  go_enter Try.func13, Try.ntmps13
  go_wp2_with fail
  refine (drawGave_any H.out).mono ?_
  rintro e w1 ⟨g, c, xs, s, t, n, rfl, hP, hs, ht, hb1⟩
  have HP := Lib.hid hP
  have HS := Lib.hid hs
  have HT := Lib.hid ht
  have HB1 := Lib.hid hb1
  have H1 := Lib.hid (H.out.kept hb1)
  have hfew := hP.few
  clear hP hs ht hb1
  go_wp2_with fail
  refine (l1New_any H1.out.row H1.out.small).mono ?_
  rintro e w2 ⟨rfl, hc2, hb2⟩
  have HP2 := Lib.hid (HP.out.below hb2)
  have HB2 := Lib.hid hb2
  have HC2 := Lib.hid hc2
  clear hb2 hc2
  have HD : Hid (∀ (n : Int) (W : World), Below w1.heap.size w1 W → GivesP4 w (.returned (.tuple #[.slice (some ⟨g, 0, none⟩) xs.length c, .string s, .string t, .int .i64 n])) W) :=
    fun n W hb => ⟨g, c, xs, s, t, n, rfl, HP.out.below hb, HS.out, HT.out, below_trans HB1.out hb⟩
  go_wp2_with fail
  refine (l5Find_any _ _ _ HP2.out.lies (by omega)).mono ?_
  rintro e w' ⟨rfl, rfl⟩
  by_cases hp : 0 ≤ pfindV xs s t
  · obtain ⟨k, e, hk, -⟩ := pfind_hit hp
    rw [e]
    clear hp e
    have hd : decide ((0 : Int) ≤ (k : Int)) = true := by simp
    go_wp2_with fail
    refine (l1Once_any _ HC2.out (by omega) (by omega)).mono ?_
    rintro e w3 ⟨q, rfl, hc3, hg3⟩
    have HB3 := Lib.hid (below_of HB2.out hg3)
    have HP3 := Lib.hid (HP.out.below HB3.out)
    clear hc3 hg3
    cases q
    · have HN := Lib.hid (HD.out n w3 HB3.out)
      go_wp2
      exact bodyPost_ret (v := .tuple #[.slice (some ⟨g, 0, none⟩) xs.length c, .string s, .string t, .int .i64 n]) (by simp [results, Try.results13, go_sem]) rfl HN.out
    · obtain ⟨b', off', e', hlb, c0, c1, c3⟩ := Par.at HP3.out.lies k hk
      injection e' with e'; injection e' with e1 e2; subst e1; subst e2
      simp only [Nat.zero_add] at c0 c1 c3
      have HN := Lib.hid (HD.out xs[k].shares w3 HB3.out)
      go_wp2
      exact bodyPost_ret (v := .tuple #[.slice (some ⟨g, 0, none⟩) xs.length c, .string s, .string t, .int .i64 xs[k].shares]) (by simp [results, Try.results13, go_sem]) rfl HN.out
  · have hlo := pfind_lo xs s t
    have hpe : pfindV xs s t = -1 := by omega
    have HN := Lib.hid (HD.out n w2 HB2.out)
    rw [hpe]
    clear hp hpe hlo
    go_wp2
    exact bodyPost_ret (v := .tuple #[.slice (some ⟨g, 0, none⟩) xs.length c, .string s, .string t, .int .i64 n]) (by simp [results, Try.results13, go_sem]) rfl HN.out
end Go.Proofs.Ytpmibegfpfjdgaa
