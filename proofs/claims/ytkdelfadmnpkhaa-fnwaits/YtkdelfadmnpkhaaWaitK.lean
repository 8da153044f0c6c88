/-
  What the program's WaitsOk, AmountIn, WaitsFor answer.
-/
import Derived.Test.YtkdelfadmnpkhaaWaitJ
namespace Go.Proofs.Ytkdelfadmnpkhaa
open Go.ChangeShapes Go.WideShapes Go.ChangeAt Go.RowKit

theorem waits_all {ps : List Wai} (h20 : ps.length ≤ 20) (h : ∀ j (h : j < ps.length), waitB ps[j] = true) : waitsB ps = wsortB ps := by
  rw [Bool.eq_iff_iff]
  constructor
  · intro hw
    exact wsort_yes fun j hj _ => (waits_true hw).2.2 j hj hj
  · intro hs
    have hs' : WFrom ps 0 := by simpa [wsortB] using hs
    exact waits_yes h20 ⟨fun j hj _ => h j hj, fun j hj _ => hs' j hj (Nat.zero_le _)⟩

set_option maxHeartbeats 4000000 in
set_option maxRecDepth 100000 in
theorem iWaitsOk_any {w : World} {a : Option Addr} {ps : List Wai} (cap : Nat) (h : Recs Wai.cs w a ps) (hl : ps.length ≤ 9223372036854775807) (hs : WSized ps) :
    Calls Try.prog 20 #[.slice a ps.length cap] w fun e w' => e = .returned (.bool (waitsB ps)) ∧ Below w.heap.size w w' := by
  have H := Lib.hid h
  have HS := Lib.hid hs
  clear h hs
  by_cases h20 : ps.length ≤ 20
  case neg =>
    have HN := Lib.hid (waits_long h20)
    have hd : decide ((20 : Int) < (ps.length : Int)) = true := by simp; omega
    go_enter Try.func20, Try.ntmps20
    go_wp2
    go_ret
    exact ⟨by rw [HN.out]; rfl, Below.refl _ _⟩
  have hd : decide ((20 : Int) < (ps.length : Int)) = false := by simp; omega
  go_enter Try.func20, Try.ntmps20
  go_wp2
  go_loopw [10] (fun i w' => ∃ k : Nat, k ≤ ps.length ∧ i = .int .i64 k ∧ Below w.heap.size w w' ∧ ∀ j (h : j < ps.length), j < k → waitB ps[j] = true) (fun i _ => ps.length - (intOf i).toNat)
  case atStart => exact ⟨0, Nat.zero_le _, rfl, Below.refl _ _, fun _ _ h => by omega⟩
  case round =>
    obtain ⟨k, hk, rfl, hb, hu⟩ := hrel
    have HB := Lib.hid hb
    have HU := Lib.hid hu
    clear hb hu
    by_cases hlt : k < ps.length
    · obtain ⟨b, off, rfl, hlb, c0, c1, c2, c3⟩ := Wai.at (H.out.below HB.out) k hlt
      have hz1 := Lib.hid (HS.out k hlt).1
      have hz2 := Lib.hid (HS.out k hlt).2
      have HBN := Lib.hid (below_trans HB.out (below_new wr (.cells #[.string ps[k].who, .string ps[k].mill, .int .i64 ps[k].amount, .int .i64 ps[k].ripe] 26)))
      go_wp2_with fail
      refine (iWaitRight_any ps[k] _ hz1.out hz2.out).mono ?_
      rintro e w2 ⟨rfl, hb2⟩
      have HB2 := Lib.hid (below_trans HBN.out hb2)
      clear hb2 HBN
      cases hn : waitB ps[k]
      · have HN := Lib.hid (waits_not hlt hn)
        go_wp2
        go_ret
        exact ⟨by rw [HN.out]; rfl, HB2.out⟩
      · have HUN : Hid (∀ j (h : j < ps.length), j < k + 1 → waitB ps[j] = true) := by
          intro j h hj
          by_cases e : j = k
          · subst e; exact hn
          · exact HU.out j h (by omega)
        go_wp2
        go_roundw
        case rel => exact ⟨k + 1, by omega, by go_num, HB2.out, HUN.out⟩
        case measure => simp [intOf]; omega
    · obtain rfl : k = ps.length := by omega
      have HN := Lib.hid (waits_all h20 (fun j hj => HU.out j hj hj))
      go_wp2_with fail
      refine (iSorted_any _ (H.out.below HB.out) (by omega)).mono ?_
      rintro e w2 ⟨rfl, hb2⟩
      have HB2 := Lib.hid (below_trans HB.out hb2)
      clear hb2
      go_wp2
      go_ret
      exact ⟨by rw [HN.out]; rfl, HB2.out⟩

set_option maxHeartbeats 4000000 in
set_option maxRecDepth 100000 in
theorem iAmountIn_any {w : World} {a : Option Addr} {ps : List Wai} (cap : Nat) (h : Recs Wai.cs w a ps) (hl : ps.length ≤ 9223372036854775807) (hs : WSized ps) :
    Calls Try.prog 23 #[.slice a ps.length cap] w fun e w' => e = .returned (.int .i64 (amountInV ps)) ∧ Below w.heap.size w w' := by
  have H := Lib.hid h
  have HS := Lib.hid hs
  clear h hs
  go_enter Try.func23, Try.ntmps23
  go_wp2_with fail
  refine (iWaitsOk_any _ H.out hl HS.out).mono ?_
  rintro e w1 ⟨rfl, hb1⟩
  have HB1 := Lib.hid hb1
  clear hb1
  cases hf : waitsB ps
  · have HN := Lib.hid (show amountInV ps = -1 by simp [amountInV, hf])
    go_wp2
    go_ret
    exact ⟨by rw [HN.out]; rfl, HB1.out⟩
  · have HNN := Lib.hid (show amountInV ps = sumA ps ps.length by simp [amountInV, hf])
    obtain ⟨h20, hm⟩ := waits_true hf
    have HM := Lib.hid hm
    clear hm hf
    go_wp2_with fail
    go_loopw [3, 11] (fun t i w' => ∃ k : Nat, k ≤ ps.length ∧ i = .int .i64 k ∧ t = .int .i64 (sumA ps k) ∧ Below w.heap.size w w') (fun _ i _ => ps.length - (intOf i).toNat)
    case atStart => exact ⟨0, Nat.zero_le _, rfl, rfl, HB1.out⟩
    case round =>
      obtain ⟨k, hk, rfl, rfl, hb⟩ := hrel
      have HB := Lib.hid hb
      clear hb
      have hsb := sumA_bd HM.out k hk
      by_cases hlt : k < ps.length
      · obtain ⟨b, off, rfl, _, c0, c1, c2, c3⟩ := Wai.at (H.out.below HB.out) k hlt
        have HN := Lib.hid (show sumA ps (k + 1) = sumA ps k + ps[k].amount by simp only [sumA, watn_eq hlt])
        have hb3 := wait_bd (HM.out.1 k hlt hlt)
        have HBN := Lib.hid (below_trans HB.out (below_new wr (.cells #[.string ps[k].who, .string ps[k].mill, .int .i64 ps[k].amount, .int .i64 ps[k].ripe] 26)))
        go_wp2
        go_roundw
        case rel => exact ⟨k + 1, by omega, by go_num, by rw [HN.out], HBN.out⟩
        case measure => simp [intOf]; omega
      · obtain rfl : k = ps.length := by omega
        go_wp2
        go_ret
        exact ⟨by rw [HNN.out]; rfl, HB.out⟩

set_option maxHeartbeats 4000000 in
set_option maxRecDepth 100000 in
theorem iWaitsFor_any {w : World} {a : Option Addr} {ps : List Wai} (cap : Nat) (who : ByteArray) (h : Recs Wai.cs w a ps) (hl : ps.length ≤ 1048576) (hs : WSized ps) :
    Calls Try.prog 17 #[.slice a ps.length cap, .string who] w (ResW (waitsForV ps who) w) := by
  have H := Lib.hid h
  have HS := Lib.hid hs
  clear h hs
  obtain ⟨i0, hi, hz0, hz1, hz2⟩ := info_parts info_Wait
  have HI := Lib.hid hi
  have HZ0 := Lib.hid hz0
  have HZ1 := Lib.hid hz1
  have HZ2 := Lib.hid hz2
  clear hi hz0 hz1 hz2
  go_enter Try.func17, Try.ntmps17
  go_wp2_with fail
  refine (iWaitsOk_any _ H.out (by omega) HS.out).mono ?_
  rintro e w1 ⟨rfl, hb1⟩
  have HB1 := Lib.hid hb1
  clear hb1
  cases hf : waitsB ps
  · have HN := Lib.hid (show ResW (waitsForV ps who) w (.returned (.slice none 0 0)) w1 from by
      rw [show waitsForV ps who = [] by simp [waitsForV, hf]]
      exact ⟨none, 0, rfl, ⟨Lies.nil _ _, .inl rfl⟩, HB1.out⟩)
    go_wp2
    go_ret
    exact HN.out
  have hle1 : w.heap.size ≤ w1.heap.size := HB1.out.size
  have HR0 : Hid (ForRelW w ps who (.slice (some ⟨w1.heap.size, 0, none⟩) 0 0) (.int .i64 0) (w1.alloc (.cells #[] 26))) :=
    ⟨0, Nat.zero_le _, rfl, ⟨by simp [ofWhoW], .inr ⟨w1.heap.size, 0, #[], by simp [ofWhoW], hle1, heap_alloc_new _ _, by simp [ofWhoW], Nat.zero_le _, by simp, by simp [ofWhoW]⟩⟩, below_trans HB1.out (below_new _ _), .inl rfl⟩
  go_wp2_with fail
  go_loopw [5, 14] (fun v i wr => ForRelW w ps who v i wr) (fun _ i _ => ps.length - (intOf i).toNat)
  case atStart => exact HR0.out
  case round =>
    clear HR0
    obtain ⟨k, hk, rfl, hown, hb, hor⟩ := hrel
    have HW := Lib.hid hown
    have HB := Lib.hid hb
    clear hown hb hor
    by_cases hlt : k < ps.length
    · obtain ⟨b, off, rfl, hlb, c0, c1, c2, c3⟩ := Wai.at (H.out.below HB.out) k hlt
      have HOW1 := Lib.hid (HW.out.alloc (.cells #[.string ps[k].who, .string ps[k].mill, .int .i64 ps[k].amount, .int .i64 ps[k].ripe] 26))
      have HBN := Lib.hid (below_trans HB.out (below_new wr (.cells #[.string ps[k].who, .string ps[k].mill, .int .i64 ps[k].amount, .int .i64 ps[k].ripe] 26)))
      cases hq : (ps[k].who.toList == who.toList)
      · have HR : Hid (∀ v, wr.ownsRow w.heap.size 26 4 v (ofWhoW who (ps.take k)).length ((ofWhoW who (ps.take k)).flatMap Wai.cs) → ForRelW w ps who v (.int .i64 ((k : Int) + 1)) (wr.alloc (.cells #[.string ps[k].who, .string ps[k].mill, .int .i64 ps[k].amount, .int .i64 ps[k].ripe] 26))) :=
          fun v hv => ⟨k + 1, by omega, by go_num, by rw [ofWhoW_no hlt hq]; exact hv.alloc _, HBN.out, .inr hf⟩
        go_wp2
        go_roundw
        case rel => exact HR.out _ HW.out
        case measure => simp [intOf]; omega
      · have HLE := ofWhoW_le who (ps.take k)
        have hlk : (ps.take k).length = k := by simp; omega
        have HBL := Lib.hid (own_lo HW.out)
        have HYS := Lib.hid (ofWhoW_yes hlt hq)
        have HOW := Lib.hid (HOW1.out.alloc (.cells #[.string ps[k].who, .string ps[k].mill, .int .i64 ps[k].amount, .int .i64 ps[k].ripe] 26))
        have hle2 : w.heap.size ≤ wr.heap.size := HB.out.size
        rw [hlk] at HLE
        clear hlk
        have HN1 := Lib.hid (rec_new ps[k] (wr.alloc (.cells #[.string ps[k].who, .string ps[k].mill, .int .i64 ps[k].amount, .int .i64 ps[k].ripe] 26)))
        have HN2 := Lib.hid (show ∀ j u, ([ps[k]].flatMap Wai.cs)[j]? = some u → ((wr.alloc (.cells #[.string ps[k].who, .string ps[k].mill, .int .i64 ps[k].amount, .int .i64 ps[k].ripe] 26)).alloc (.cells #[.string ps[k].who, .string ps[k].mill, .int .i64 ps[k].amount, .int .i64 ps[k].ripe] 26)).cell? ((⟨wr.heap.size + 1, 0, none⟩ : Addr).add j) = some u by simpa using HN1.out)
        go_wp2_with (at_builtin; refine wpList_append_lies _ rfl _ _ 24 rfl w.heap.size 26 i0 (.agg #[.string ByteArray.empty, .string ByteArray.empty, .int .i64 0, .int .i64 0]) 4 48 Try.underlying24 HI.out HZ0.out HZ1.out HZ2.out rfl (by decide) _ _ _ rfl HOW.out ⟨wr.heap.size + 1, 0, none⟩ 1 1 ([ps[k]].flatMap Wai.cs) rfl ?c0 HN2.out (flat_one Wai.one _) (by decide) ?c3 ?c4 ?c5 _ rfl ?_)
        case c0 => rfl
        case c3 => unfold maxLen; omega
        case c4 => omega
        case c5 => simp; omega
        intro g6 c6 w6 hown6 hgrow hat hlt6
        have HR : Hid (ForRelW w ps who (.slice (some ⟨g6, 0, none⟩) ((ofWhoW who (ps.take k)).length + 1) c6) (.int .i64 ((k : Int) + 1)) w6) :=
          ⟨k + 1, by omega, by go_num, by rw [HYS.out, List.length_append, List.flatMap_append]; exact hown6, bgrown (below_trans HBN.out (below_new _ _)) (by simp; omega) hgrow HBL.out, .inr hf⟩
        clear hown6 hgrow hat hlt6
        go_wp2
        go_roundw
        case rel => first | exact HR.out | (have := HR.out; simpa using this)
        case measure => simp [intOf]; omega
    · obtain rfl : k = ps.length := by omega
      have HD : Hid (∀ v, wr.ownsRow w.heap.size 26 4 v (ofWhoW who (ps.take ps.length)).length ((ofWhoW who (ps.take ps.length)).flatMap Wai.cs) → ResW (waitsForV ps who) w (.returned v) wr) := by
        intro v hv
        rw [List.take_length] at hv
        rw [show waitsForV ps who = ofWhoW who ps by simp [waitsForV, hf]]
        obtain ⟨a', c', rfl, ho, -⟩ := ownR_of Wai.len hv
        exact ⟨a', c', rfl, ho, HB.out⟩
      go_wp2
      go_ret
      exact HD.out _ HW.out
end Go.Proofs.Ytkdelfadmnpkhaa
