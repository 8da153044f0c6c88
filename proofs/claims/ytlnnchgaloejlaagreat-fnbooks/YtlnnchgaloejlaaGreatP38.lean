/-
  Texts joined: Draw4L.
-/
import Derived.Test.YtlnnchgaloejlaaGreatP17
import Derived.Test.YtlnnchgaloejlaaGreatP37
import Derived.Deep.RegionWith
import Derived.IntWalk
namespace Go.Proofs.YtlnnchgaloejlaaGreat
open Go.ChangeShapes Go.WideShapes Go.ChangeAt Go.RowKit

/-- What a draw of mills leaves. -/
def DrawnMs (C : Nat) (a : Option Addr) (len cap : Nat) (w : World) (e : Ending) (w' : World) : Prop :=
  ∃ (g c : Nat) (ms : List Mil), e = .returned (.slice (some ⟨g, 0, none⟩) ms.length c) ∧ ms.length ≤ 3 ∧ OwnG Mil.cs 5 54 MDrawn C a len cap w g c ms w'

set_option maxHeartbeats 4000000 in
set_option maxRecDepth 100000 in
theorem l4DrawList_any {C : Nat} {a : Option Addr} {len cap : Nat} {w : World} (h : Cur w C a len cap) :
    Calls Tryz.prog 54 #[.pointer (some ⟨C, 0, none⟩)] w (DrawnMs C a len cap w) := by
  have hC : C < w.heap.size := lt_of_cell h.c0
  have HO := Lib.hid h.old
  have HC := Lib.hid h
  clear h
  obtain ⟨i0, hi, hz0, hz1, hz2⟩ := info_parts info_Mill
  have HI := Lib.hid hi
  have HZ0 := Lib.hid hz0
  have HZ1 := Lib.hid hz1
  have HZ2 := Lib.hid hz2
  clear hi hz0 hz1 hz2
  go_enter Tryz.func54, Tryz.ntmps54
  go_wp2_with fail
  refine (l4Draw_any _ (by decide) HC.out).mono ?_
  rintro e w1 ⟨m1, hm1, rfl, hc1, hg1⟩
  go_wp2_with fail
  refine (l4Draw_any _ (by decide) hc1).mono ?_
  rintro e w2 ⟨m2, hm2, rfl, hc2, hg2⟩
  have HG2 := Lib.hid (grown_step hg1 hg2)
  have HC2 := Lib.hid hc2
  clear hg1 hg2 hc1 hc2 HC
  go_wp2_with fail
  refine (l1Below_any _ (HC2.out.kept (below_new _ _)) (by omega) (by omega)).mono ?_
  rintro e w3 ⟨x, ⟨hx, hx2⟩, rfl, hc3, hg3⟩
  obtain ⟨k, rfl⟩ : ∃ k : Nat, x = k := ⟨x.toNat, by omega⟩
  have HW3 := Lib.hid (ownG_lit (Z := MDrawn) Mil.len hC HG2.out [m1, m2] (by simp) (by intro m hm; simp at hm; rcases hm with rfl | rfl <;> assumption) hc3 hg3 k (by simp; omega))
  have HL := Lib.hid (show ([m1, m2].take k).length = k by simp; omega)
  clear hc3 hg3 HG2 HC2
  go_wp2_with fail
  refine (l1Once_any _ HW3.out.cur (by omega) (by omega)).mono ?_
  rintro e w4 ⟨t, rfl, hc4, hg4⟩
  have HW4 := Lib.hid (HW3.out.draw hC hc4 hg4)
  clear hc4 hg4 HW3
  cases t
  · have HD := Lib.hid (show DrawnMs C a len cap w (.returned (.slice (some ⟨w2.heap.size, 0, none⟩) k 2)) w4 from ⟨w2.heap.size, 2, [m1, m2].take k, by rw [HL.out], by rw [HL.out]; omega, HW4.out⟩)
    go_wp2
    go_ret
    exact HD.out
  · go_wp2_with fail
    refine (l4DrawAny_any HW4.out.cur).mono ?_
    rintro e w5 ⟨m, hm, rfl, hc5, hg5⟩
    have HW5 := Lib.hid (HW4.out.draw hC hc5 hg5)
    have HC5 := Lib.hid (hc5.kept (below_new w5 (.cells m.cs.toArray 54)))
    have HG5 := Lib.hid (grown_new HW5.out.grown (.cells m.cs.toArray 54))
    have HM := Lib.hid hm
    have HOW := Lib.hid (show (w5.alloc (.cells m.cs.toArray 54)).ownsRow w.heap.size 54 5 (.slice (some ⟨w2.heap.size, 0, none⟩) k 2) k (([m1, m2].take k).flatMap Mil.cs) from by have := HW5.out.own.alloc (.cells m.cs.toArray 54); rw [HL.out] at this; exact this)
    clear hm hc5 hg5 HW4
    go_wp2_with (at_builtin; refine wpList_append_lies _ rfl _ _ 25 rfl w.heap.size 54 i0 (.agg #[.string ByteArray.empty, .int .i64 0, .int .i64 0, .int .i64 0, .bool false]) 5 48 Tryz.underlying25 HI.out HZ0.out HZ1.out HZ2.out rfl (by decide) _ _ _ rfl HOW.out ⟨w5.heap.size, 0, none⟩ 1 1 ([m].flatMap Mil.cs) rfl ?c0 ?c1 (flat_one Mil.one _) (by decide) ?c3 ?c4 ?c5 _ rfl ?_)
    case c0 => rfl
    case c1 =>
      intro j u hj
      obtain ⟨b', off', e, hc⟩ := lies_new w5 m.cs 54 j u (by simpa using hj)
      injection e with e; injection e with e1 e2; subst e1; subst e2
      rw [add_plain]; exact hc
    case c3 => unfold maxLen; omega
    case c4 => omega
    case c5 => exact HG5.out.size
    intro g6 c6 w6 hown6 hgrow hat hlt
    have HW6 := Lib.hid (HW5.out.more (ys := [m]) hC HO.out HL.out rfl (by intro y hy; simp at hy; subst hy; exact HM.out) HC5.out HG5.out 2 hown6 hgrow)
    have HL6 := Lib.hid (show ([m1, m2].take k ++ [m]).length = k + 1 by rw [List.length_append, HL.out]; rfl)
    have HD := Lib.hid (show DrawnMs C a len cap w (.returned (.slice (some ⟨g6, 0, none⟩) (k + 1) c6)) w6 from ⟨g6, c6, [m1, m2].take k ++ [m], by rw [HL6.out], by rw [HL6.out]; omega, HW6.out⟩)
    clear hown6 hgrow hat hlt HW6 HOW
    go_wp2
    go_ret
    exact HD.out

theorem Src.alloc {w : World} {a : Option Addr} {len : Nat} (h : Src w a len) (o : Obj) : Src (w.alloc o) a len := h.kept (below_new _ _)

end Go.Proofs.YtlnnchgaloejlaaGreat
