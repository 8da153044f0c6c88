/-
  What chapter 5's PartsFor answers, the model's: a list of the call's own.
-/
import Derived.Test.YtpmibegfpfjdgaaPartV
import Derived.Deep.AppendLies
namespace Go.Proofs.Ytpmibegfpfjdgaa
open Go.ChangeShapes Go.WideShapes Go.ChangeAt Go.RowKit

/-- A list of the call's own comes back. -/
def ResP (xs : List Par) (w : World) (e : Ending) (w' : World) : Prop :=
  ∃ a cap, e = .returned (.slice a xs.length cap) ∧ OwnR Par.cs 3 w' w.heap.size a xs ∧ Below w.heap.size w w'
/-- All parts of that one. -/
def ofWho (who : ByteArray) (ps : List Par) : List Par := ps.filter fun p => p.who.toList == who.toList
noncomputable def partsForV (ps : List Par) (who : ByteArray) : List Par := if partsB ps = true then ofWho who ps else []
theorem ofWho_yes {ps : List Par} {who : ByteArray} {k : Nat} (h : k < ps.length) (hq : (ps[k].who.toList == who.toList) = true) : ofWho who (ps.take (k + 1)) = ofWho who (ps.take k) ++ [ps[k]] := by
  unfold ofWho
  rw [List.take_succ_eq_append_getElem h, List.filter_append, List.filter_cons, if_pos hq, List.filter_nil]
theorem ofWho_no {ps : List Par} {who : ByteArray} {k : Nat} (h : k < ps.length) (hq : (ps[k].who.toList == who.toList) = false) : ofWho who (ps.take (k + 1)) = ofWho who (ps.take k) := by
  unfold ofWho
  rw [List.take_succ_eq_append_getElem h, List.filter_append, List.filter_cons, if_neg (by rw [hq]; decide), List.filter_nil, List.append_nil]
theorem ofWho_le (who : ByteArray) (ps : List Par) : (ofWho who ps).length ≤ ps.length := List.length_filter_le _ _

/-- The loop's word. -/
def ForRel (w : World) (ps : List Par) (who : ByteArray) (v i : Value) (wr : World) : Prop :=
  ∃ k : Nat, k ≤ ps.length ∧ i = .int .i64 k ∧ wr.ownsRow w.heap.size 37 3 v (ofWho who (ps.take k)).length ((ofWho who (ps.take k)).flatMap Par.cs) ∧ Below w.heap.size w wr ∧ (k = 0 ∨ partsB ps = true)

set_option maxHeartbeats 4000000 in
set_option maxRecDepth 100000 in
theorem sPartsFor_any {w : World} {a : Option Addr} {ps : List Par} (cap : Nat) (who : ByteArray) (h : Recs Par.cs w a ps) (hl : ps.length ≤ 1048576) (hs : PSized ps) :
    Calls Try.prog 25 #[.slice a ps.length cap, .string who] w (ResP (partsForV ps who) w) := by
  have H := Lib.hid h
  have HS := Lib.hid hs
  clear h hs
  obtain ⟨i0, hi, hz0, hz1, hz2⟩ := info_parts info_Part
  have HI := Lib.hid hi
  have HZ0 := Lib.hid hz0
  have HZ1 := Lib.hid hz1
  have HZ2 := Lib.hid hz2
  clear hi hz0 hz1 hz2
  have HR0 : Hid (ForRel w ps who (.slice (some ⟨w.heap.size, 0, none⟩) 0 0) (.int .i64 0) (w.alloc (.cells #[] 37))) :=
    ⟨0, Nat.zero_le _, rfl, ⟨by simp [ofWho], .inr ⟨w.heap.size, 0, #[], by simp [ofWho], Nat.le_refl _, heap_alloc_new _ _, by simp [ofWho], Nat.zero_le _, by simp, by simp [ofWho]⟩⟩, below_new _ _, .inl rfl⟩
  go_enter Try.func25, Try.ntmps25
  go_wp2_with fail
  go_loopw [5, 6] (fun v i wr => ForRel w ps who v i wr) (fun _ i _ => ps.length - (intOf i).toNat)
  case atStart => exact HR0.out
  case round =>
    clear HR0
    obtain ⟨k, hk, rfl, hown, hb, hor⟩ := hrel
    have HW := Lib.hid hown
    have HB := Lib.hid hb
    have HOR := Lib.hid hor
    clear hown hb hor
    by_cases hlt : k < ps.length
    · go_wp2_with fail
      refine (sPartsOk_any _ (H.out.below HB.out) (by omega) HS.out).mono ?_
      rintro e w2 ⟨rfl, hb2⟩
      have HW2 := Lib.hid (own_below HW.out hb2)
      have HB2 := Lib.hid (below_trans HB.out hb2)
      clear hb2 HW HB
      cases hf : partsB ps
      · have HK := Lib.hid (show k = 0 from by rcases HOR.out with h | h; exact h; rw [h] at hf; cases hf)
        have HD : Hid (∀ v, w2.ownsRow w.heap.size 37 3 v (ofWho who (ps.take k)).length ((ofWho who (ps.take k)).flatMap Par.cs) → ResP (partsForV ps who) w (.returned v) w2) := by
          intro v hv
          rw [HK.out] at hv
          rw [show partsForV ps who = [] by simp [partsForV, hf]]
          obtain ⟨a', c', rfl, ho, -⟩ := ownR_of (xs := []) Par.len (by simpa [ofWho] using hv)
          exact ⟨a', c', rfl, ho, HB2.out⟩
        go_wp2
        go_ret
        exact HD.out _ HW2.out
      · obtain ⟨b, off, rfl, hlb, c0, c1, c2⟩ := Par.at (H.out.below HB2.out) k hlt
        cases hq : (ps[k].who.toList == who.toList)
        · have HR : Hid (∀ v, w2.ownsRow w.heap.size 37 3 v (ofWho who (ps.take k)).length ((ofWho who (ps.take k)).flatMap Par.cs) → ForRel w ps who v (.int .i64 ((k : Int) + 1)) w2) :=
            fun v hv => ⟨k + 1, by omega, by go_num, by rw [ofWho_no hlt hq]; exact hv, HB2.out, .inr hf⟩
          go_wp2
          go_roundw
          case rel => exact HR.out _ HW2.out
          case measure => simp [intOf]; omega
        · have HLE := ofWho_le who (ps.take k)
          have hlk : (ps.take k).length = k := by simp; omega
          have HBL := Lib.hid (own_lo HW2.out)
          have HYS := Lib.hid (ofWho_yes hlt hq)
          have HOW := Lib.hid (HW2.out.alloc (.cells #[.string ps[k].who, .string ps[k].mill, .int .i64 ps[k].shares] 37))
          have hle2 : w.heap.size ≤ w2.heap.size := HB2.out.size
          rw [hlk] at HLE
          clear hlk
          go_wp2_with (at_builtin; refine wpList_append_lies _ rfl _ _ 24 rfl w.heap.size 37 i0 (.agg #[.string ByteArray.empty, .string ByteArray.empty, .int .i64 0]) 3 40 Try.underlying24 HI.out HZ0.out HZ1.out HZ2.out rfl (by decide) _ _ _ rfl HOW.out ⟨w2.heap.size, 0, none⟩ 1 1 ([ps[k]].flatMap Par.cs) rfl ?c0 ?c1 (flat_one Par.one _) (by decide) ?c3 ?c4 ?c5 _ rfl ?_)
          case c0 => rfl
          case c1 =>
            intro j u hj
            obtain ⟨b', off', e, hc⟩ := lies_new w2 ps[k].cs 37 j u (by simpa using hj)
            injection e with e; injection e with e1 e2; subst e1; subst e2
            rw [add_plain]; exact hc
          case c3 => unfold maxLen; omega
          case c4 => omega
          case c5 => simp; omega
          intro g6 c6 w6 hown6 hgrow hat hlt6
          have HR : Hid (ForRel w ps who (.slice (some ⟨g6, 0, none⟩) ((ofWho who (ps.take k)).length + 1) c6) (.int .i64 ((k : Int) + 1)) w6) :=
            ⟨k + 1, by omega, by go_num, by rw [HYS.out, List.length_append, List.flatMap_append]; exact hown6, bgrown (below_trans HB2.out (below_new _ _)) (by simp; omega) hgrow HBL.out, .inr hf⟩
          clear hown6 hgrow hat hlt6
          go_wp2
          go_roundw
          case rel => first | exact HR.out | (have := HR.out; simpa using this)
          case measure => simp [intOf]; omega
    · obtain rfl : k = ps.length := by omega
      have HD : Hid (∀ v, wr.ownsRow w.heap.size 37 3 v (ofWho who (ps.take ps.length)).length ((ofWho who (ps.take ps.length)).flatMap Par.cs) → ResP (partsForV ps who) w (.returned v) wr) := by
        intro v hv
        rw [List.take_length] at hv
        have e : partsForV ps who = ofWho who ps := by
          rcases HOR.out with h0 | h1
          · have : ps = [] := List.eq_nil_of_length_eq_zero h0
            subst this
            simp [partsForV, ofWho]
          · simp [partsForV, h1]
        rw [e]
        obtain ⟨a', c', rfl, ho, -⟩ := ownR_of Par.len hv
        exact ⟨a', c', rfl, ho, HB.out⟩
      go_wp2
      go_ret
      exact HD.out _ HW.out
end Go.Proofs.Ytpmibegfpfjdgaa
