/-
  Texts joined: Draw5.
-/
import Derived.Test.YtlnnchgaloejlaaGreatP12
import Derived.Test.YtlnnchgaloejlaaGreatP17
import Derived.Test.YtlnnchgaloejlaaGreatP21
import Derived.Deep.RegionWith
namespace Go.Proofs.YtlnnchgaloejlaaGreat
open Go.ChangeShapes Go.WideShapes Go.ChangeAt Go.RowKit

/-- Short names. -/
def PShort (p : Par) : Prop := p.who.size ≤ 7 ∧ p.mill.size ≤ 7
/-- Any number. -/
def AnyN (_ : Int) : Prop := True

set_option maxHeartbeats 1000000 in
set_option maxRecDepth 100000 in
theorem l5DrawN_any {C : Nat} {a : Option Addr} {len cap : Nat} {w : World} (h : Cur w C a len cap) :
    Calls Tryz.prog 92 #[.pointer (some ⟨C, 0, none⟩)] w (Drawn C a len cap AnyN w) := by
  go_enter Tryz.func92, Tryz.ntmps92
  go_wp2_with fail
  refine (l1Once_any _ h (by omega) (by omega)).mono ?_
  rintro e w1 ⟨t, rfl, hc1, hg1⟩
  have hC : C < w1.heap.size := lt_of_cell hc1.c0
  cases t
  · go_wp2_with fail
    refine (l1Below_any _ hc1 (by omega) (by omega)).mono ?_
    rintro e w2 ⟨x, ⟨hx, hx2⟩, rfl, hc2, hg2⟩
    go_wp2
    go_ret
    exact ⟨_, trivial, rfl, hc2, grown_step hg1 hg2⟩
  · go_wp2_with fail
    refine (l1Below_any _ (hc1.kept ((Below.refl _ _).alloc (Nat.le_refl _) _)) (by omega) (by omega)).mono ?_
    rintro e w2 ⟨x, ⟨hx, hx2⟩, rfl, hc2, hg2⟩
    have hg : w.grownBy w2 (some C) := grown_step hg1 (grown_step (grown_new (grown_refl _ _) _) hg2)
    have q0 := kept_cell (b := w1.heap.size) (o := 0) hg2 (by go_simp; rfl) (by omega)
    have q1 := kept_cell (b := w1.heap.size) (o := 1) hg2 (by go_simp; rfl) (by omega)
    have q2 := kept_cell (b := w1.heap.size) (o := 2) hg2 (by go_simp; rfl) (by omega)
    have q3 := kept_cell (b := w1.heap.size) (o := 3) hg2 (by go_simp; rfl) (by omega)
    clear hg1 hg2
    have hx3 : x = 0 ∨ x = 1 ∨ x = 2 ∨ x = 3 := by omega
    rcases hx3 with rfl | rfl | rfl | rfl
    all_goals
      go_wp2
      go_ret
      exact ⟨_, trivial, rfl, hc2, hg⟩

theorem pick2 (j : Nat) (hj : j < 2) : ∃ pv : ByteArray, (#[Value.string ⟨#[97, 110, 110]⟩, .string ⟨#[109, 105, 97]⟩] : Array Value)[j]? = some (.string pv) ∧ pv.size ≤ 7 := by
  match j, hj with
  | 0, _ => exact ⟨_, rfl, by decide⟩
  | 1, _ => exact ⟨_, rfl, by decide⟩
theorem setSh_mem {ps : List Par} {k : Nat} {v : Int} {p : Par} (h : p ∈ setSh ps k v) : ∃ q ∈ ps, p.who = q.who ∧ p.mill = q.mill := by
  obtain ⟨j, hj, rfl⟩ := List.getElem_of_mem h
  have hj' : j < ps.length := by rw [setSh_length] at hj; exact hj
  obtain ⟨e1, e2, -⟩ := setSh_at ps k v j hj
  rw [patn_eq hj'] at e1 e2
  exact ⟨ps[j], List.getElem_mem hj', e1, e2⟩
theorem gaveL_short {ps : List Par} (h : ∀ p ∈ ps, PShort p) {who mill : ByteArray} (hw : who.size ≤ 7) (hm : mill.size ≤ 7) (n : Int) : ∀ p ∈ gaveL ps who mill n, PShort p := by
  intro p hp
  unfold gaveL at hp
  split at hp
  · split at hp
    · unfold giveAt at hp
      split at hp
      · obtain ⟨q, hq, e1, e2⟩ := setSh_mem hp
        unfold PShort; rw [e1, e2]; exact h q hq
      · simp only [List.mem_append, List.mem_singleton] at hp
        rcases hp with (hp | rfl) | hp
        · exact h p (List.mem_of_mem_take hp)
        · exact ⟨hw, hm⟩
        · exact h p (List.mem_of_mem_drop hp)
    · exact h p hp
  · simp at hp
theorem gaveL_more (ps : List Par) (who mill : ByteArray) (n : Int) : (gaveL ps who mill n).length ≤ ps.length + 1 := by
  unfold gaveL
  split
  · split
    · exact giveAt_le ps who mill n
    · omega
  · simp
theorem short_sized {ps : List Par} (h : ∀ p ∈ ps, PShort p) : PSized ps :=
  psized_mem.2 fun p hp => ⟨Nat.le_trans (h p hp).1 (by unfold maxLen; omega), Nat.le_trans (h p hp).2 (by unfold maxLen; omega)⟩
/-- The number that is drawn of two, and the name of that number. -/
def Two (j : Nat) (pv : ByteArray) : Prop := j < 2 ∧ pv.size ≤ 7 ∧ (#[Value.string ⟨#[97, 110, 110]⟩, .string ⟨#[109, 105, 97]⟩] : Array Value)[j]? = some (.string pv) ∧ ([Value.string ⟨#[97, 110, 110]⟩, .string ⟨#[109, 105, 97]⟩] : List Value)[j]? = some (.string pv)
theorem two_of {z : Int} (h : 0 ≤ z) (h2 : z < 2) : ∃ j : Nat, ∃ pv, z = j ∧ Two j pv := by
  obtain ⟨j, rfl⟩ : ∃ j : Nat, z = j := ⟨z.toNat, by omega⟩
  obtain ⟨pv, hpk, hpz⟩ := pick2 j (by omega)
  exact ⟨j, pv, rfl, by omega, hpz, hpk, by rw [List.getElem?_toArray] at hpk; exact hpk⟩
theorem Two.cell {j : Nat} {pv : ByteArray} (h : Two j pv) (w : World) : (w.alloc (.cells #[.string ⟨#[97, 110, 110]⟩, .string ⟨#[109, 105, 97]⟩] 9)).cell? ⟨w.heap.size, j, none⟩ = some (.string pv) := by
  simp only [World.cell?, heap_alloc_new]; exact h.2.2.1
section
variable {C : Nat} {a : Option Addr} {len cap : Nat} {w : World} {g cp : Nat} {xs : List Par} {w3 w4 : World}
theorem drawA (hC : C < w.heap.size) (h : OwnG Par.cs 3 68 PShort C a len cap w g cp xs w3) : Calls Tryz.prog 51 #[.pointer (some ⟨C, 0, none⟩), .int .i64 2] w3.drew fun e w4 => ∃ j pv, e = .returned (.int .i64 (j : Nat)) ∧ Two j pv ∧ OwnG Par.cs 3 68 PShort C a len cap w g cp xs w4 := by
  refine (l1Below_any 2 (h.cur.kept (below_draws (Below.refl _ _) 1)) (by decide) (by decide)).mono ?_
  rintro e w4 ⟨z, ⟨hz, hz2⟩, rfl, hc4, hg4⟩
  obtain ⟨j, pv, rfl, ht⟩ := two_of hz hz2
  exact ⟨j, pv, rfl, ht, h.draw hC hc4 (undrew hg4)⟩
theorem drawB (hC : C < w.heap.size) (h : OwnG Par.cs 3 68 PShort C a len cap w g cp xs w3) : Calls Tryz.prog 51 #[.pointer (some ⟨C, 0, none⟩), .int .i64 2] (w3.alloc (.cells #[.string ⟨#[97, 110, 110]⟩, .string ⟨#[109, 105, 97]⟩] 9)).drew fun e w4 => ∃ j pv, e = .returned (.int .i64 (j : Nat)) ∧ Two j pv ∧ w4.cell? ⟨w3.heap.size, j, none⟩ = some (.string pv) ∧ OwnG Par.cs 3 68 PShort C a len cap w g cp xs w4 := by
  refine (l1Below_any 2 (h.cur.kept (below_draws (below_new _ _) 1)) (by decide) (by decide)).mono ?_
  rintro e w4 ⟨z, ⟨hz, hz2⟩, rfl, hc4, hg4⟩
  obtain ⟨j, pv, rfl, ht⟩ := two_of hz hz2
  have hlo := h.lo
  exact ⟨j, pv, rfl, ht, kept_cell (undrew hg4) (ht.cell w3) (by omega), (h.new _).draw hC hc4 (undrew hg4)⟩
/-- The second number. -/
theorem drawC (hC : C < w.heap.size) (h : OwnG Par.cs 3 68 PShort C a len cap w g cp xs w4) : Calls Tryz.prog 51 #[.pointer (some ⟨C, 0, none⟩), .int .i64 60] w4 fun e w5 => ∃ y, e = .returned (.int .i64 y) ∧ (0 ≤ y ∧ y < 60) ∧ IntKind.i64.wrap (1 + y) = 1 + y ∧ OwnG Par.cs 3 68 PShort C a len cap w g cp xs w5 ∧ ∀ b o v, b ≠ C → w4.cell? ⟨b, o, none⟩ = some v → w5.cell? ⟨b, o, none⟩ = some v := by
  refine (l1Below_any 60 h.cur (by decide) (by decide)).mono ?_
  rintro e w5 ⟨y, ⟨hy, hy2⟩, rfl, hc5, hg5⟩
  exact ⟨y, rfl, ⟨hy, hy2⟩, IntWalk.i64_in _ (by omega), h.draw hC hc5 hg5, fun b o v hb hv => kept_cell hg5 hv hb⟩
/-- And the list is given one more. -/
theorem drawG (h : OwnG Par.cs 3 68 PShort C a len cap w g cp xs w4) (hx : xs.length ≤ 5) {s pv : ByteArray} (hs : s.size ≤ 7) (hp : pv.size ≤ 7) (n : Int) : Calls Tryz.prog 91 #[.slice (some ⟨g, 0, none⟩) xs.length cp, .string s, .string pv, .int .i64 n] w4 fun e w5 => ∃ g' c' ys, e = .returned (.tuple #[.slice (some ⟨g', 0, none⟩) ys.length c', .bool (gaveB xs s pv n)]) ∧ ys.length ≤ xs.length + 1 ∧ OwnG Par.cs 3 68 PShort C a len cap w g' c' ys w5 := by
  refine (sGave_any cp s pv n (h.lies Par.len) (own_some h.own).2.1 (by omega) (short_sized h.all) (Nat.le_trans hs (by unfold maxLen; omega)) (Nat.le_trans hp (by unfold maxLen; omega))).mono ?_
  rintro e w6 ⟨g6, c6, rfl, ho6, hb6⟩
  exact ⟨g6, c6, _, rfl, gaveL_more _ _ _ _, h.turn ho6 hb6 (gaveL_short h.all hs hp _)⟩
end

/-- The list of a draw. -/
def DrawnQ5 (C : Nat) (a : Option Addr) (len cap : Nat) (w : World) (m : Nat) (e : Ending) (w' : World) : Prop :=
  ∃ g cp xs, e = .returned (.slice (some ⟨g, 0, none⟩) xs.length cp) ∧ xs.length ≤ m ∧ OwnG Par.cs 3 68 PShort C a len cap w g cp xs w'
/-- Between the rounds. -/
def DrawRel (C : Nat) (a : Option Addr) (len cap : Nat) (w : World) (v i : Value) (wr : World) : Prop :=
  ∃ g cp xs, ∃ k : Nat, v = .slice (some ⟨g, 0, none⟩) xs.length cp ∧ i = .int .i64 k ∧ xs.length + k ≤ 5 ∧ OwnG Par.cs 3 68 PShort C a len cap w g cp xs wr

set_option maxHeartbeats 8000000 in
set_option maxRecDepth 100000 in
theorem l5Draw_any {C : Nat} {a : Option Addr} {len cap : Nat} {w : World} (h : Cur w C a len cap) :
    Calls Tryz.prog 55 #[.pointer (some ⟨C, 0, none⟩)] w (DrawnQ5 C a len cap w 6) := by
  have hC : C < w.heap.size := lt_of_cell h.c0
  have HA := Lib.hid h.old
  have HC0 := Lib.hid (h.kept (below_new w (.cells #[] 68)))
  clear h
  obtain ⟨i0, hi, hz0, hz1, hz2⟩ := info_parts info_Part
  have HI := Lib.hid hi
  have HZ0 := Lib.hid hz0
  have HZ1 := Lib.hid hz1
  have HZ2 := Lib.hid hz2
  clear hi hz0 hz1 hz2
  go_enter Tryz.func55, Tryz.ntmps55
  go_wp2_with fail
  refine (l1Below_any _ HC0.out (by omega) (by omega)).mono ?_
  rintro e w1 ⟨x, ⟨hx, hx2⟩, rfl, hc1, hg1⟩
  obtain ⟨k, rfl⟩ : ∃ k : Nat, x = k := ⟨x.toNat, by omega⟩
  have HR0 : Hid (DrawRel C a len cap w (.slice (some ⟨w.heap.size, 0, none⟩) 0 0) (.int .i64 k) w1) := by
    have ho := ownG_lit (f := Par.cs) (c := 3) (T := 68) (Z := PShort) (w := w) Par.len hC (grown_refl w _) [] (by simp) (by simp) hc1 (by simpa using hg1) 0 (Nat.le_refl _)
    exact ⟨w.heap.size, 0, [], k, rfl, rfl, by simp; omega, by simpa using ho⟩
  clear hc1 hg1
  go_wp2_with fail
  go_loopw [3, 4] (fun v i wr => DrawRel C a len cap w v i wr) (fun _ i _ => (intOf i).toNat)
  case atStart => exact HR0.out
  case round =>
    clear HR0 hx hx2
    obtain ⟨g, cp, xs, i, rfl, rfl, hxl, hG⟩ := hrel
    have HG := Lib.hid hG
    clear hG
    by_cases hi0 : 0 < i
    · go_wp2_with fail
      refine (l2Draw_any HG.out.cur).mono ?_
      rintro e w3 ⟨s, hs, rfl, hc3, hg3⟩
      have HG3 := Lib.hid (HG.out.draw hC hc3 hg3)
      clear hc3 hg3 HG
      have hlo := HG3.out.lo
      have HSS := Lib.hid hs
      have HX5 := Lib.hid (show xs.length ≤ 5 by omega)
      clear hs
      go_wp2_with fail
      go_region_with (first
        | (go_at_call 51; first
          | ((with_reducible refine (drawB hC HG3.out).mono ?_); rintro e w4 ⟨j, pv, rfl, ht, l4, hG4⟩; have HT := Lib.hid ht; obtain ⟨hj0, hpz, hpk, hpk2⟩ := ht; have hj : (j : Int) < 2 := (by omega); clear hj0; have HPZ := Lib.hid hpz; clear hpz; have HG4 := Lib.hid hG4; clear hG4)
          | ((with_reducible refine (drawA hC HG3.out).mono ?_); rintro e w4 ⟨j, pv, rfl, ht, hG4⟩; have HT := Lib.hid ht; obtain ⟨hj0, hpz, hpk, hpk2⟩ := ht; have hj : (j : Int) < 2 := (by omega); clear hj0; have HPZ := Lib.hid hpz; clear hpz; have HG4 := Lib.hid hG4; clear hG4)
          | ((with_reducible refine (drawC hC HG4.out).mono ?_); rintro e w5 ⟨y, rfl, ⟨hy, hy2⟩, hwr, hG5, hk5⟩; (try have l5 := hk5 _ _ _ (by have := HG3.out.lo; omega) l4); have HG5 := Lib.hid hG5; clear hG5 hk5)
          | ((with_reducible refine (drawC hC (HG4.out.new (.cells #[.string ⟨#[97, 110, 110]⟩, .string ⟨#[109, 105, 97]⟩] 9))).mono ?_); rintro e w5 ⟨y, rfl, ⟨hy, hy2⟩, hwr, hG5, hk5⟩; have l5 := hk5 _ _ _ (by have := HG4.out.lo; omega) (HT.out.cell w4); have HG5 := Lib.hid hG5; clear hG5 hk5))
        | (go_at_call 91; first
          | ((with_reducible refine (drawG HG5.out HX5.out HSS.out HPZ.out (1 + y)).mono ?_); rintro e w6 ⟨g6, c6, ys, rfl, hys, hG6⟩; have HG6 := Lib.hid hG6; clear hG6)
          | ((with_reducible refine (drawG (HG5.out.new (.cells #[.string ⟨#[97, 110, 110]⟩, .string ⟨#[109, 105, 97]⟩] 9)) HX5.out HSS.out HPZ.out (1 + y)).mono ?_); rintro e w6 ⟨g6, c6, ys, rfl, hys, hG6⟩; have HG6 := Lib.hid hG6; clear hG6)))
      all_goals
        go_wp2
        go_roundw
        case rel => exact ⟨g6, c6, _, i - 1, rfl, by go_num, by omega, HG6.out⟩
        case measure => simp [intOf]; omega
    · obtain rfl : i = 0 := by omega
      go_wp2_with fail
      refine (l1Once_any _ HG.out.cur (by omega) (by omega)).mono ?_
      rintro e w3 ⟨t, rfl, hc3, hg3⟩
      have HG3 := Lib.hid (HG.out.draw hC hc3 hg3)
      clear hc3 hg3 HG
      cases t
      · have HN := Lib.hid (show DrawnQ5 C a len cap w 6 (.returned (.slice (some ⟨g, 0, none⟩) xs.length cp)) w3 from ⟨g, cp, xs, rfl, by omega, HG3.out⟩)
        go_wp2
        go_ret
        exact HN.out
      · go_wp2_with fail
        refine (l2DrawAny_any HG3.out.cur).mono ?_
        rintro e w4 ⟨s, hs, rfl, hc4, hg4⟩
        have HG4 := Lib.hid (HG3.out.draw hC hc4 hg4)
        have HS4 := Lib.hid hs
        clear hc4 hg4 hs HG3
        go_wp2_with fail
        refine (l2DrawAny_any HG4.out.cur).mono ?_
        rintro e w5 ⟨t, ht, rfl, hc5, hg5⟩
        have HG5 := Lib.hid (HG4.out.draw hC hc5 hg5)
        have HS5 := Lib.hid ht
        clear hc5 hg5 ht HG4
        go_wp2_with fail
        refine (l5DrawN_any HG5.out.cur).mono ?_
        rintro e w6 ⟨n, -, rfl, hc6, hg6⟩
        have HG6 := Lib.hid ((HG5.out.draw hC hc6 hg6).new (.cells #[.string s, .string t, .int .i64 n] 68))
        clear hc6 hg6 HG5
        go_wp2_with (at_builtin; refine wpList_append_some rfl _ _ 26 rfl w.heap.size 68 i0 (.agg #[.string ByteArray.empty, .string ByteArray.empty, .int .i64 0]) 3 40 Tryz.underlying26 HI.out HZ0.out HZ1.out HZ2.out rfl (by decide) g cp xs.length (xs.flatMap Par.cs) rfl HG6.out.own ⟨w6.heap.size, 0, none⟩ 1 1 (Par.cs ⟨s, t, n⟩) rfl rfl ?c1 (Par.one _) ?c2 ?c3 ?_)
        case c1 =>
          intro j u hj
          rw [add_plain]
          have := RecAt.new Par.cs w6 (⟨s, t, n⟩ : Par) 68 j u hj
          rw [Nat.zero_add]; exact this
        case c2 => unfold maxLen; omega
        case c3 => omega
        rintro g7 c7 w7 ⟨h7, h7g, h7b, h7l, h7x⟩
        have HN := Lib.hid (show DrawnQ5 C a len cap w 6 (.returned (.slice (some ⟨g7, 0, none⟩) (xs.length + 1) c7)) w7 from by
          refine ⟨g7, c7, xs ++ [⟨s, t, n⟩], by simp, by simp; omega, ?_⟩
          exact HG6.out.more hC HA.out rfl rfl (by intro y hy; simp only [List.mem_singleton] at hy; subst hy; exact ⟨HS4.out, HS5.out⟩) HG6.out.cur HG6.out.grown cp (by simpa using h7) h7g)
        clear h7 h7g h7b h7l h7x
        go_wp2
        go_ret
        exact HN.out

/-- A list that was drawn. -/
structure GotP (w' : World) (g c : Nat) (xs : List Par) : Prop where
  lies : Recs Par.cs w' (some ⟨g, 0, none⟩) xs
  fits : xs.length ≤ c
  few : xs.length ≤ 6
  short : ∀ p ∈ xs, PShort p
theorem GotP.below {w w' : World} {g c : Nat} {xs : List Par} (h : GotP w g c xs) (hb : Below w.heap.size w w') : GotP w' g c xs := ⟨h.lies.below hb, h.fits, h.few, h.short⟩
end Go.Proofs.YtlnnchgaloejlaaGreat
