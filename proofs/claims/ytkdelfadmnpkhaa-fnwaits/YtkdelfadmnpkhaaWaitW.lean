/-
  What chapter 6's WaitsFor and the copies answer, the model's: lists of the call's own.
-/
import Derived.Test.YtkdelfadmnpkhaaWaitS
namespace Go.Proofs.Ytkdelfadmnpkhaa
open Go.ChangeShapes Go.WideShapes Go.ChangeAt Go.RowKit

/-- A copy of the call's own. -/
def CopyW (ps : List Wai) (w : World) (e : Ending) (w' : World) : Prop :=
  ∃ b cap, e = .returned (.slice (some ⟨b, 0, none⟩) ps.length cap) ∧ OwnR Wai.cs 4 w' w.heap.size (some ⟨b, 0, none⟩) ps ∧ w'.ownsRow w.heap.size 26 4 (.slice (some ⟨b, 0, none⟩) ps.length cap) ps.length (ps.flatMap Wai.cs) ∧ Below w.heap.size w w'

set_option maxHeartbeats 1000000 in
set_option maxRecDepth 100000 in
theorem l6Copy_any {w : World} {b off : Nat} {ps : List Wai} (cap : Nat) (h : Recs Wai.cs w (some ⟨b, off, none⟩) ps) (hl : ps.length ≤ 1048576) :
    Calls Try.prog 46 #[.slice (some ⟨b, off, none⟩) ps.length cap] w (CopyW ps w) := by
  have H := Lib.hid h
  clear h
  obtain ⟨i0, hi, hz0, hz1, hz2⟩ := info_parts info_Wait
  have HI := Lib.hid hi
  have HZ0 := Lib.hid hz0
  have HZ1 := Lib.hid hz1
  have HZ2 := Lib.hid hz2
  clear hi hz0 hz1 hz2
  go_enter Try.func46, Try.ntmps46
  go_wp2_with (at_builtin; refine wpList_append_own_at _ rfl _ _ 24 rfl w.heap.size 26 i0 (.agg #[.string ByteArray.empty, .string ByteArray.empty, .int .i64 0, .int .i64 0]) 4 48 Try.underlying24 HI.out HZ0.out HZ1.out HZ2.out rfl (by decide) (.slice (some ⟨w.heap.size, 0, none⟩) 0 0) 0 [] rfl ?c0 ⟨b, off, none⟩ ps.length cap (ps.flatMap Wai.cs) rfl (flat_length Wai.len ps) ?c1 (flat_one Wai.one ps) ?c2 ?c3 ?c4 ?_)
  case c0 => exact ⟨by simp, .inr ⟨w.heap.size, 0, #[], rfl, Nat.le_refl _, heap_alloc_new _ _, Nat.le_refl _, Nat.zero_le _, by simp, by simp⟩⟩
  case c1 =>
    intro j u hj
    obtain ⟨b', off', e, hc⟩ := (Lies.below H.out (below_new w (.cells #[] 26))) j u hj
    injection e with e; injection e with e1 e2; subst e1; subst e2
    rw [add_plain]; exact hc
  case c2 => unfold maxLen; omega
  case c3 => omega
  case c4 => simp
  intro v' w' hown hgrow hnil hat
  have HR : Hid (CopyW ps w (.returned v') w') := by
    obtain ⟨a', cap', rfl, ho, hq⟩ := ownR_of Wai.len hown
    rcases hq with hq | ⟨g, rfl⟩
    · exact absurd hq hnil
    · exact ⟨g, cap', rfl, ho, hown, bgrown (below_new w (.cells #[] 26)) (by simp) hgrow (own_at0 w.heap.size)⟩
  clear hown hgrow hnil hat
  go_wp2
  go_ret
  exact HR.out
/-- A list of the call's own comes back. -/
def ResW (xs : List Wai) (w : World) (e : Ending) (w' : World) : Prop :=
  ∃ a cap, e = .returned (.slice a xs.length cap) ∧ OwnR Wai.cs 4 w' w.heap.size a xs ∧ Below w.heap.size w w'
/-- All parts of that one. -/
def ofWhoW (who : ByteArray) (ps : List Wai) : List Wai := ps.filter fun p => p.who.toList == who.toList
noncomputable def waitsForV (ps : List Wai) (who : ByteArray) : List Wai := if waitsB ps = true then ofWhoW who ps else []
theorem ofWhoW_yes {ps : List Wai} {who : ByteArray} {k : Nat} (h : k < ps.length) (hq : (ps[k].who.toList == who.toList) = true) : ofWhoW who (ps.take (k + 1)) = ofWhoW who (ps.take k) ++ [ps[k]] := by
  unfold ofWhoW
  rw [List.take_succ_eq_append_getElem h, List.filter_append, List.filter_cons, if_pos hq, List.filter_nil]
theorem ofWhoW_no {ps : List Wai} {who : ByteArray} {k : Nat} (h : k < ps.length) (hq : (ps[k].who.toList == who.toList) = false) : ofWhoW who (ps.take (k + 1)) = ofWhoW who (ps.take k) := by
  unfold ofWhoW
  rw [List.take_succ_eq_append_getElem h, List.filter_append, List.filter_cons, if_neg (by rw [hq]; decide), List.filter_nil, List.append_nil]
theorem ofWhoW_le (who : ByteArray) (ps : List Wai) : (ofWhoW who ps).length ≤ ps.length := List.length_filter_le _ _

/-- The loop's word. -/
def ForRelW (w : World) (ps : List Wai) (who : ByteArray) (v i : Value) (wr : World) : Prop :=
  ∃ k : Nat, k ≤ ps.length ∧ i = .int .i64 k ∧ wr.ownsRow w.heap.size 26 4 v (ofWhoW who (ps.take k)).length ((ofWhoW who (ps.take k)).flatMap Wai.cs) ∧ Below w.heap.size w wr ∧ (k = 0 ∨ waitsB ps = true)

set_option maxHeartbeats 4000000 in
set_option maxRecDepth 100000 in
theorem sWaitsFor_any {w : World} {a : Option Addr} {ps : List Wai} (cap : Nat) (who : ByteArray) (h : Recs Wai.cs w a ps) (hl : ps.length ≤ 1048576) (hs : WSized ps) :
    Calls Try.prog 22 #[.slice a ps.length cap, .string who] w (ResW (waitsForV ps who) w) := by
  have H := Lib.hid h
  have HS := Lib.hid hs
  clear h hs
  obtain ⟨i0, hi, hz0, hz1, hz2⟩ := info_parts info_Wait
  have HI := Lib.hid hi
  have HZ0 := Lib.hid hz0
  have HZ1 := Lib.hid hz1
  have HZ2 := Lib.hid hz2
  clear hi hz0 hz1 hz2
  have HR0 : Hid (ForRelW w ps who (.slice (some ⟨w.heap.size, 0, none⟩) 0 0) (.int .i64 0) (w.alloc (.cells #[] 26))) :=
    ⟨0, Nat.zero_le _, rfl, ⟨by simp [ofWhoW], .inr ⟨w.heap.size, 0, #[], by simp [ofWhoW], Nat.le_refl _, heap_alloc_new _ _, by simp [ofWhoW], Nat.zero_le _, by simp, by simp [ofWhoW]⟩⟩, below_new _ _, .inl rfl⟩
  go_enter Try.func22, Try.ntmps22
  go_wp2_with fail
  go_loopw [5, 6] (fun v i wr => ForRelW w ps who v i wr) (fun _ i _ => ps.length - (intOf i).toNat)
  case atStart => exact HR0.out
  case round =>
    clear HR0
    obtain ⟨k, hk, rfl, hown, hb, hor⟩ := hrel
    have HW := Lib.hid hown
    have HB := Lib.hid hb
    have HOR := Lib.hid hor
    clear hown hb hor
    by_cases hlt : k < ps.length
    · go_wp2_with fail
      refine (sWaitsOk_any _ (H.out.below HB.out) (by omega) HS.out).mono ?_
      rintro e w2 ⟨rfl, hb2⟩
      have HW2 := Lib.hid (own_below HW.out hb2)
      have HB2 := Lib.hid (below_trans HB.out hb2)
      clear hb2 HW HB
      cases hf : waitsB ps
      · have HK := Lib.hid (show k = 0 from by rcases HOR.out with h | h; exact h; rw [h] at hf; cases hf)
        have HD : Hid (∀ v, w2.ownsRow w.heap.size 26 4 v (ofWhoW who (ps.take k)).length ((ofWhoW who (ps.take k)).flatMap Wai.cs) → ResW (waitsForV ps who) w (.returned v) w2) := by
          intro v hv
          rw [HK.out] at hv
          rw [show waitsForV ps who = [] by simp [waitsForV, hf]]
          obtain ⟨a', c', rfl, ho, -⟩ := ownR_of (xs := []) Wai.len (by simpa [ofWhoW] using hv)
          exact ⟨a', c', rfl, ho, HB2.out⟩
        go_wp2
        go_ret
        exact HD.out _ HW2.out
      · obtain ⟨b, off, rfl, hlb, c0, c1, c2, c3⟩ := Wai.at (H.out.below HB2.out) k hlt
        cases hq : (ps[k].who.toList == who.toList)
        · have HR : Hid (∀ v, w2.ownsRow w.heap.size 26 4 v (ofWhoW who (ps.take k)).length ((ofWhoW who (ps.take k)).flatMap Wai.cs) → ForRelW w ps who v (.int .i64 ((k : Int) + 1)) w2) :=
            fun v hv => ⟨k + 1, by omega, by go_num, by rw [ofWhoW_no hlt hq]; exact hv, HB2.out, .inr hf⟩
          go_wp2
          go_roundw
          case rel => exact HR.out _ HW2.out
          case measure => simp [intOf]; omega
        · have HLE := ofWhoW_le who (ps.take k)
          have hlk : (ps.take k).length = k := by simp; omega
          have HBL := Lib.hid (own_lo HW2.out)
          have HYS := Lib.hid (ofWhoW_yes hlt hq)
          have HOW := Lib.hid (HW2.out.alloc (.cells #[.string ps[k].who, .string ps[k].mill, .int .i64 ps[k].amount, .int .i64 ps[k].ripe] 26))
          have hle2 : w.heap.size ≤ w2.heap.size := HB2.out.size
          rw [hlk] at HLE
          clear hlk
          go_wp2_with (at_builtin; refine wpList_append_lies _ rfl _ _ 24 rfl w.heap.size 26 i0 (.agg #[.string ByteArray.empty, .string ByteArray.empty, .int .i64 0, .int .i64 0]) 4 48 Try.underlying24 HI.out HZ0.out HZ1.out HZ2.out rfl (by decide) _ _ _ rfl HOW.out ⟨w2.heap.size, 0, none⟩ 1 1 ([ps[k]].flatMap Wai.cs) rfl ?c0 ?c1 (flat_one Wai.one _) (by decide) ?c3 ?c4 ?c5 _ rfl ?_)
          case c0 => rfl
          case c1 =>
            intro j u hj
            obtain ⟨b', off', e, hc⟩ := lies_new w2 ps[k].cs 26 j u (by simpa using hj)
            injection e with e; injection e with e1 e2; subst e1; subst e2
            rw [add_plain]; exact hc
          case c3 => unfold maxLen; omega
          case c4 => omega
          case c5 => simp; omega
          intro g6 c6 w6 hown6 hgrow hat hlt6
          have HR : Hid (ForRelW w ps who (.slice (some ⟨g6, 0, none⟩) ((ofWhoW who (ps.take k)).length + 1) c6) (.int .i64 ((k : Int) + 1)) w6) :=
            ⟨k + 1, by omega, by go_num, by rw [HYS.out, List.length_append, List.flatMap_append]; exact hown6, bgrown (below_trans HB2.out (below_new _ _)) (by simp; omega) hgrow HBL.out, .inr hf⟩
          clear hown6 hgrow hat hlt6
          go_wp2
          go_roundw
          case rel => first | exact HR.out | (have := HR.out; simpa using this)
          case measure => simp [intOf]; omega
    · obtain rfl : k = ps.length := by omega
      have HD : Hid (∀ v, wr.ownsRow w.heap.size 26 4 v (ofWhoW who (ps.take ps.length)).length ((ofWhoW who (ps.take ps.length)).flatMap Wai.cs) → ResW (waitsForV ps who) w (.returned v) wr) := by
        intro v hv
        rw [List.take_length] at hv
        have e : waitsForV ps who = ofWhoW who ps := by
          rcases HOR.out with h0 | h1
          · have : ps = [] := List.eq_nil_of_length_eq_zero h0
            subst this
            simp [waitsForV, ofWhoW]
          · simp [waitsForV, h1]
        rw [e]
        obtain ⟨a', c', rfl, ho, -⟩ := ownR_of Wai.len hv
        exact ⟨a', c', rfl, ho, HB.out⟩
      go_wp2
      go_ret
      exact HD.out _ HW.out
end Go.Proofs.Ytkdelfadmnpkhaa
