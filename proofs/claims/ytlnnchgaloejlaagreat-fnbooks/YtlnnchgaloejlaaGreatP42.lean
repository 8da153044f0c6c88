/-
  Texts joined: MillI, LayPart, CmpPart, CmpBy.
-/
import Derived.Test.YtlnnchgaloejlaaGreatP7
import Derived.Test.YtlnnchgaloejlaaGreatP17
import Derived.Test.YtlnnchgaloejlaaGreatP22
import Derived.Test.YtlnnchgaloejlaaGreatP41
import Derived.Shelf.SlSortCmp.NoneTotal
import Derived.Shelf.SlicesQ.Equal
import Derived.StillTailTactics
namespace Go.Proofs.YtlnnchgaloejlaaGreat
open Go.ChangeShapes Go.WideShapes Go.ChangeAt Go.RowKit

/-- A mill as a value. -/
abbrev Mil.agg (m : Mil) : Value := .agg #[.string m.name, .int .i64 m.stake, .int .i64 m.shares, .int .i64 m.cut, .bool m.shut]

theorem iShare_any (m : Mil) (w : World) :
    Calls Tryz.prog 112 #[.agg #[.string m.name, .int .i64 m.stake, .int .i64 m.shares, .int .i64 m.cut, .bool m.shut]] w fun e w' => e = .returned (.agg #[.int .i64 m.stake, .int .i64 m.shares]) ∧ Below w.heap.size w w' := by
  go_enter Tryz.func112, Tryz.ntmps112
  go_wp2
  refine bodyPost_ret (v := .agg #[.int .i64 m.stake, .int .i64 m.shares]) (by simp [results, Tryz.results112, go_sem]) rfl ⟨rfl, ?_⟩
  exact below_trans (below_new _ _) (below_new _ _)

/-- None: no Stake and no Shares. -/
def noneB (x y : Int) : Bool := x == 0 && y == 0

theorem iNone_any (x y : Int) (w : World) :
    Calls Tryz.prog 113 #[.agg #[.int .i64 x, .int .i64 y]] w fun e w' => e = .returned (.bool (noneB x y)) ∧ Below w.heap.size w w' := by
  have HN : Hid (noneB x y = (x == 0 && y == 0)) := rfl
  have he := eq_share x y 0 0
  go_enter Tryz.func113, Tryz.ntmps113
  cases hx : (x == 0) <;> cases hy : (y == 0)
  all_goals
    go_wp2
    go_ret
    exact ⟨by rw [HN.out, hx, hy]; rfl, below_new _ _⟩

/-- What 'right' answers: all but the name. -/
def rightB (m : Mil) : Bool := inB 0 1000000 m.stake && (inB 0 1000000000 m.shares && ((m.stake == 0 || decide (0 < m.shares)) && inB 0 100 m.cut))
theorem millB_right (m : Mil) : millB m = (nameB m.name && rightB m) := rfl
theorem none_zero {x y : Int} (h : y = 0) : noneB x y = (x == 0) := by subst h; simp [noneB]
theorem none_pos {x y : Int} (h : 0 < y) : noneB x y = false := by
  have : (y == 0) = false := by simp; omega
  simp [noneB, this]

set_option maxHeartbeats 1000000 in
set_option maxRecDepth 100000 in
theorem mright_any (m : Mil) (w : World) :
    Calls Tryz.prog 145 #[.agg #[.string m.name, .int .i64 m.stake, .int .i64 m.shares, .int .i64 m.cut, .bool m.shut]] w fun e w' => e = .returned (.bool (rightB m)) ∧ Below w.heap.size w w' := by
  have HN : Hid (rightB m = (inB 0 1000000 m.stake && (inB 0 1000000000 m.shares && ((m.stake == 0 || decide (0 < m.shares)) && inB 0 100 m.cut)))) := rfl
  cases h2 : inB 0 1000000 m.stake
  · go_enter Tryz.func145, Tryz.ntmps145
    go_wp2_with (go_at_call 22; refine (iAmountOk_any _ _).mono ?_; rintro e w' ⟨rfl, rfl⟩; rw [h2])
    go_ret
    exact ⟨by rw [HN.out, h2]; rfl, below_new _ _⟩
  cases h3 : inB 0 1000000000 m.shares
  · go_enter Tryz.func145, Tryz.ntmps145
    go_wp2_with (first | (go_at_call 22; refine (iAmountOk_any _ _).mono ?_; rintro e w' ⟨rfl, rfl⟩; rw [h2]) | (go_at_call 168; refine (iSharesOk_any _ _).mono ?_; rintro e w' ⟨rfl, rfl⟩; rw [h3]))
    go_ret
    exact ⟨by rw [HN.out, h2, h3]; rfl, below_new _ _⟩
  cases h6 : inB 0 100 m.cut
  · go_enter Tryz.func145, Tryz.ntmps145
    go_wp2_with (first | (go_at_call 22; refine (iAmountOk_any _ _).mono ?_; rintro e w' ⟨rfl, rfl⟩; rw [h2]) | (go_at_call 168; refine (iSharesOk_any _ _).mono ?_; rintro e w' ⟨rfl, rfl⟩; rw [h3]) | (go_at_call 59; refine (within_any _ _ _).mono ?_; rintro e w' ⟨rfl, rfl⟩; rw [h6]))
    go_ret
    exact ⟨by rw [HN.out, h2, h3, h6]; simp, below_new _ _⟩
  cases h5 : decide (0 < m.shares)
  · have h0 : m.shares = 0 := by have := inB_true h3; simp at h5; omega
    have HZ := Lib.hid (none_zero (x := m.stake) h0)
    clear h0
    go_enter Tryz.func145, Tryz.ntmps145
    go_wp2_with (first | (go_at_call 22; refine (iAmountOk_any _ _).mono ?_; rintro e w' ⟨rfl, rfl⟩; rw [h2]) | (go_at_call 168; refine (iSharesOk_any _ _).mono ?_; rintro e w' ⟨rfl, rfl⟩; rw [h3]) | (go_at_call 59; refine (within_any _ _ _).mono ?_; rintro e w' ⟨rfl, rfl⟩; rw [h6]) | (go_at_call 112; refine (iShare_any m _).mono ?_; rintro e w2 ⟨rfl, hb2⟩; have HB2 := Lib.hid (below_trans (below_new _ _) hb2); clear hb2) | (go_at_call 113; refine (iNone_any _ _ _).mono ?_; rintro e w3 ⟨rfl, hb3⟩; have HB3 := Lib.hid (below_trans HB2.out hb3); clear hb3; rw [HZ.out]))
    go_ret
    exact ⟨by rw [HN.out, h2, h3, h5, h6]; simp, HB3.out⟩
  · go_enter Tryz.func145, Tryz.ntmps145
    go_wp2_with (first | (go_at_call 22; refine (iAmountOk_any _ _).mono ?_; rintro e w' ⟨rfl, rfl⟩; rw [h2]) | (go_at_call 168; refine (iSharesOk_any _ _).mono ?_; rintro e w' ⟨rfl, rfl⟩; rw [h3]) | (go_at_call 59; refine (within_any _ _ _).mono ?_; rintro e w' ⟨rfl, rfl⟩; rw [h6]))
    go_ret
    exact ⟨by rw [HN.out, h2, h3, h5, h6]; simp, below_new _ _⟩

set_option maxHeartbeats 1000000 in
set_option maxRecDepth 100000 in
theorem iMillOk_any (m : Mil) (w : World) (hs : m.name.size ≤ maxLen) :
    Calls Tryz.prog 111 #[.agg #[.string m.name, .int .i64 m.stake, .int .i64 m.shares, .int .i64 m.cut, .bool m.shut]] w fun e w' => e = .returned (.bool (millB m)) ∧ Below w.heap.size w w' := by
  have HS := Lib.hid hs
  clear hs
  have HN := Lib.hid (millB_right m)
  cases h1 : nameB m.name
  · go_enter Tryz.func111, Tryz.ntmps111
    go_wp2_with (go_at_call 140; refine (iNameOk_any _ _ HS.out).mono ?_; rintro e w' ⟨rfl, rfl⟩; rw [h1])
    go_ret
    exact ⟨by rw [HN.out, h1]; rfl, below_new _ _⟩
  · go_enter Tryz.func111, Tryz.ntmps111
    go_wp2_with (first | (go_at_call 140; refine (iNameOk_any _ _ HS.out).mono ?_; rintro e w' ⟨rfl, rfl⟩; rw [h1]) | (go_at_call 145; refine (mright_any m _).mono ?_; rintro e w2 ⟨rfl, hb2⟩; have HB2 := Lib.hid (below_trans (below_new _ _) hb2); clear hb2))
    go_ret
    exact ⟨by rw [HN.out, h1, Bool.true_and]; rfl, HB2.out⟩

theorem info_mstrs : (Tryz.prog.info? 9).map (fun i => (i.zero, i.size, i.bytes)) = some (some (.string ByteArray.empty), 1, 16) := by kernel_rfl
theorem mm_called (m : Mil) (w : World) : (method 320 54 (.agg #[.string m.name, .int .i64 m.stake, .int .i64 m.shares, .int .i64 m.cut, .bool m.shut]) "loop.example/g00614/impl.called").run Tryz.prog w = .ok (207, .agg #[.string m.name, .int .i64 m.stake, .int .i64 m.shares, .int .i64 m.cut, .bool m.shut]) w := by kernel_rfl
theorem mm_right (m : Mil) (w : World) : (method 320 54 (.agg #[.string m.name, .int .i64 m.stake, .int .i64 m.shares, .int .i64 m.cut, .bool m.shut]) "loop.example/g00614/impl.right").run Tryz.prog w = .ok (145, .agg #[.string m.name, .int .i64 m.stake, .int .i64 m.shares, .int .i64 m.cut, .bool m.shut]) w := by kernel_rfl

/-- What 'names' leaves: the names, in the block behind all that was there. -/
def MToNames (ms : List Mil) (w : World) (e : Ending) (w' : World) : Prop :=
  e = .returned (.slice (some ⟨w.heap.size, 0, none⟩) ms.length ms.length) ∧ Strs w' (some ⟨w.heap.size, 0, none⟩) (mnames ms) ∧ Below w.heap.size w w'

set_option maxHeartbeats 1000000 in
set_option maxRecDepth 100000 in
theorem mnames_any {w : World} {a : Option Addr} {ms : List Mil} (cap : Nat) (h : Recs Mil.cs w a ms) (hl : ms.length ≤ 1048576) :
    Calls Tryz.prog 137 #[.slice a ms.length cap] w (MToNames ms w) := by
  have H := Lib.hid h
  clear h
  have hmk := run_make_row' (P := Tryz.prog) 86 9 (.string ByteArray.empty) 16 Tryz.underlying86 info_mstrs rfl .i64 .i64 ms.length (by omega) (by omega)
  go_enter Tryz.func137, Tryz.ntmps137
  go_wp2
  clear hmk
  go_loopw [11] (fun i w' => ∃ k : Nat, k ≤ ms.length ∧ i = .int .i64 k ∧ Room w ms.length ((mnames ms).map .string) k w') (fun i _ => ms.length - (intOf i).toNat)
  case atStart => exact ⟨0, Nat.zero_le _, rfl, Room.new _ _ _ _ _⟩
  case round =>
    obtain ⟨k, hk, rfl, hr⟩ := hrel
    by_cases hlt : k < ms.length
    · obtain ⟨b, off, rfl, hb, hc0, hc1, hc2, hc3, hc4⟩ := Mil.at H.out k hlt
      have hd0 := (hr.low.cell (p := ⟨b, off + k * 5, none⟩) hb).trans hc0
      have hd1 := (hr.low.cell (p := ⟨b, off + k * 5 + 1, none⟩) hb).trans hc1
      have hd2 := (hr.low.cell (p := ⟨b, off + k * 5 + 2, none⟩) hb).trans hc2
      have hd3 := (hr.low.cell (p := ⟨b, off + k * 5 + 3, none⟩) hb).trans hc3
      have hd4 := (hr.low.cell (p := ⟨b, off + k * 5 + 4, none⟩) hb).trans hc4
      have hm := mm_called ms[k]
      obtain ⟨u, hu⟩ := hr.all k hlt
      have hf := hr.free k
      have hlo := hr.has
      have hle := hr.low.size
      have HR := Lib.hid (((hr.set (v := .string ms[k].name) hlt (by rw [List.getElem?_map, List.getElem?_eq_getElem (by rw [len_mn]; exact hlt)]; simp [mnames])).below (below_new _ (.cells #[.string ms[k].name, .int .i64 ms[k].stake, .int .i64 ms[k].shares, .int .i64 ms[k].cut, .bool ms[k].shut] 54))).below (below_new _ (.cells #[.string ms[k].name, .int .i64 ms[k].stake, .int .i64 ms[k].shares, .int .i64 ms[k].cut, .bool ms[k].shut] 54)))
      clear hr hc0 hc1 hc2 hc3 hc4
      go_wp2
      go_roundw
      case rel => exact ⟨k + 1, by omega, by go_num, HR.out⟩
      case measure => simp [intOf]; omega
    · obtain rfl : k = ms.length := by omega
      have HR := Lib.hid hr
      clear hr
      go_wp2
      go_ret
      exact ⟨rfl, HR.out.lies (by simp [mnames]), HR.out.low⟩

/-- The first n are right, names aside. -/
def MGood (ms : List Mil) (n : Nat) : Prop := ∀ j (h : j < ms.length), j < n → rightB ms[j] = true
theorem MGood.zero (ms : List Mil) : MGood ms 0 := fun _ _ h => by omega
theorem MGood.succ {ms : List Mil} {k : Nat} (h : MGood ms k) (hk : k < ms.length) (h1 : rightB ms[k] = true) : MGood ms (k + 1) := by
  intro j hj hlt
  by_cases e : j = k
  · subst e; exact h1
  · exact h j hj (by omega)
theorem MGood.all {ms : List Mil} (h : MGood ms ms.length) (hr : risesB (mnames ms) = true) : MRight ms ms.length := by
  intro j hj _
  rw [millB_right, h j hj hj, Bool.and_true, ← mnames_at hj]
  exact rises_name hr (by rw [len_mn]; exact hj)
theorem mills_bad {ms : List Mil} {k : Nat} (hk : k < ms.length) (h : rightB ms[k] = false) : millsB ms = false :=
  mills_not hk (by rw [millB_right, h, Bool.and_false])

set_option maxHeartbeats 1000000 in
set_option maxRecDepth 100000 in
theorem mok_any {w : World} {a : Option Addr} {ms : List Mil} (cap : Nat) (h : Recs Mil.cs w a ms) (hl : ms.length ≤ 9223372036854775807) (hs : Sized (mnames ms)) :
    Calls Tryz.prog 101 #[.slice a ms.length cap, .int .i64 4] w fun e w' => e = .returned (.bool (millsB ms)) ∧ Below w.heap.size w w' := by
  have H := Lib.hid h
  have HS := Lib.hid hs
  clear h hs
  by_cases h4 : ms.length ≤ 4
  case neg =>
    have HN := Lib.hid (mills_long h4)
    have hd : decide ((4 : Int) < (ms.length : Int)) = true := by simp; omega
    go_enter Tryz.func101, Tryz.ntmps101
    go_wp2
    go_ret
    exact ⟨by rw [HN.out]; rfl, Below.refl _ _⟩
  have hd : decide ((4 : Int) < (ms.length : Int)) = false := by simp; omega
  go_enter Tryz.func101, Tryz.ntmps101
  go_wp2
  go_loopw [13] (fun i w' => ∃ k : Nat, k ≤ ms.length ∧ i = .int .i64 k ∧ MGood ms k ∧ Below w.heap.size w w') (fun i _ => ms.length - (intOf i).toNat)
  case atStart => exact ⟨0, Nat.zero_le _, rfl, MGood.zero _, Below.refl _ _⟩
  case round =>
    obtain ⟨k, hk, rfl, hm, hb⟩ := hrel
    have HM := Lib.hid hm
    have HB := Lib.hid hb
    clear hm hb
    by_cases hlt : k < ms.length
    · obtain ⟨b, off, rfl, _, hc, hc1, hc2, hc3, hc4⟩ := Mil.at (H.out.below HB.out) k hlt
      have hmr := mm_right ms[k]
      cases hi : rightB ms[k]
      · have HN := Lib.hid (mills_bad hlt hi)
        go_wp2_with (go_at_call 145; refine (mright_any ms[k] _).mono ?_; rintro e w2 ⟨rfl, hb2⟩; rw [hi]; have HB2 := Lib.hid (below_trans HB.out (below_trans (below_new _ _) hb2)); clear hb2)
        go_ret
        exact ⟨by rw [HN.out]; rfl, HB2.out⟩
      · have HN := Lib.hid (HM.out.succ hlt hi)
        go_wp2_with (go_at_call 145; refine (mright_any ms[k] _).mono ?_; rintro e w2 ⟨rfl, hb2⟩; rw [hi]; have HB2 := Lib.hid (below_trans HB.out (below_trans (below_new _ _) hb2)); clear hb2)
        go_roundw
        case rel => exact ⟨k + 1, by omega, by go_num, HN.out, HB2.out⟩
        case measure => simp [intOf]; omega
    · obtain rfl : k = ms.length := by omega
      go_wp2_with fail
      refine (mnames_any _ (H.out.below HB.out) (by omega)).mono ?_
      rintro e w2 ⟨rfl, hs2, hb2⟩
      have HS2 := Lib.hid hs2
      have HB2 := Lib.hid (below_trans HB.out hb2)
      clear hs2 hb2
      have HP := Lib.hid (len_mn ms)
      have hri : Calls Tryz.prog 135 #[.slice (some ⟨wr.heap.size, 0, none⟩) ms.length ms.length] w2 fun e w' => e = .returned (.bool (risesB (mnames ms))) ∧ w2 = w' := by
        have := iRises_any ms.length HS2.out (by rw [HP.out]; omega) HS.out
        rw [HP.out] at this
        exact this
      have HRI := Lib.hid hri
      clear hri
      go_wp2_with fail
      refine HRI.out.mono ?_
      rintro e w' ⟨rfl, rfl⟩
      cases hr : risesB (mnames ms)
      · have HN := Lib.hid (mills_rise hr)
        go_wp2
        go_ret
        exact ⟨by rw [HN.out]; rfl, HB2.out⟩
      · have HN := Lib.hid (mills_yes h4 (HM.out.all hr) hr)
        go_wp2
        go_ret
        exact ⟨by rw [HN.out]; rfl, HB2.out⟩

theorem iMillsOk_any {w : World} {a : Option Addr} {ms : List Mil} (cap : Nat) (h : Recs Mil.cs w a ms) (hl : ms.length ≤ 9223372036854775807) (hs : Sized (mnames ms)) :
    Calls Tryz.prog 71 #[.slice a ms.length cap] w fun e w' => e = .returned (.bool (millsB ms)) ∧ Below w.heap.size w w' := by
  go_enter Tryz.func71, Tryz.ntmps71
  go_wp2_with (go_at_call 101; refine (mok_any _ h hl hs).mono ?_; rintro e w2 ⟨rfl, hb2⟩)
  go_ret
  exact ⟨rfl, hb2⟩

theorem mplace_any {w : World} {a : Option Addr} {ms : List Mil} (cap : Nat) (s : ByteArray) (h : Recs Mil.cs w a ms) (hl : ms.length ≤ 1048576) :
    Calls Tryz.prog 110 #[.slice a ms.length cap, .string s] w fun e w' => e = .returned (.int .i64 (placeV (mnames ms) s)) ∧ Below w.heap.size w w' := by
  have H := Lib.hid h
  clear h
  go_enter Tryz.func110, Tryz.ntmps110
  go_wp2_with fail
  refine (mnames_any _ H.out hl).mono ?_
  rintro e w2 ⟨rfl, hs2, hb2⟩
  have HB2 := Lib.hid hb2
  have HP := Lib.hid (len_mn ms)
  have hri : Calls Tryz.prog 142 #[.slice (some ⟨w.heap.size, 0, none⟩) ms.length ms.length, .string s] w2 fun e w' => e = .returned (.int .i64 (placeV (mnames ms) s)) ∧ w2 = w' := by
    have := iPlaceIn_any ms.length s hs2 (by rw [HP.out]; omega)
    rw [HP.out] at this
    exact this
  have HRI := Lib.hid hri
  clear hri hs2 hb2
  go_wp2_with fail
  refine HRI.out.mono ?_
  rintro e w' ⟨rfl, rfl⟩
  go_wp2
  go_ret
  exact ⟨rfl, HB2.out⟩

set_option maxHeartbeats 2000000 in
set_option maxRecDepth 100000 in
theorem iMillIn_any {w : World} {a : Option Addr} {ms : List Mil} (cap : Nat) (s : ByteArray) (h : Recs Mil.cs w a ms) (hl : ms.length ≤ 9223372036854775807) (hs : Sized (mnames ms)) :
    Calls Tryz.prog 79 #[.slice a ms.length cap, .string s] w (MillRes (millInV ms s) (millInB ms s) w) := by
  have H := Lib.hid h
  have HS := Lib.hid hs
  clear h hs
  go_enter Tryz.func79, Tryz.ntmps79
  go_wp2_with fail
  refine (iMillsOk_any _ (H.out.below (below_new _ _)) hl HS.out).mono ?_
  rintro e w1 ⟨rfl, hb1⟩
  have HB1 := Lib.hid (below_trans (below_new w (.cells #[.string ByteArray.empty, .int .i64 0, .int .i64 0, .int .i64 0, .bool false] 54)) hb1)
  have hlt1 : w.heap.size < w1.heap.size := by have := hb1.size; simp at this; omega
  obtain ⟨hcc, hff⟩ := kept_all hb1
  clear hb1
  cases hf : millsB ms
  · have HN := Lib.hid (millIn_no (s := s) hf)
    go_wp2
    refine bodyPost_ret (v := .tuple #[.agg #[.string ByteArray.empty, .int .i64 0, .int .i64 0, .int .i64 0, .bool false], .bool false]) (by simp [results, Tryz.results79, go_sem, hcc]; rfl) rfl ⟨by rw [HN.out.1, HN.out.2]; rfl, ?_⟩
    exact ((((HB1.out.setCell (Nat.le_refl _) _).setCell (Nat.le_refl _) _).setCell (Nat.le_refl _) _).setCell (Nat.le_refl _) _).setCell (Nat.le_refl _) _
  · have h4 := (mills_true hf).1
    go_wp2_with fail
    refine (mplace_any _ _ (H.out.below HB1.out) (by omega)).mono ?_
    rintro e w2 ⟨rfl, hb2⟩
    have HB2 := Lib.hid (below_trans HB1.out hb2)
    have hlt2 : w.heap.size < w2.heap.size := by have := hb2.size; omega
    obtain ⟨hcd, hfd⟩ := kept_all hb2
    clear hb2
    by_cases hp : 0 ≤ placeV (mnames ms) s
    · obtain ⟨k, e, hk, hq⟩ := place_hit hp
      have hk' : k < ms.length := by rw [len_mn] at hk; exact hk
      have HN := Lib.hid (millIn_in hf e hk')
      rw [e]
      obtain ⟨b, off, rfl, _, hc, hc1, hc2, hc3, hc4⟩ := Mil.at (H.out.below HB2.out) k hk'
      clear hp e hk hq
      go_wp2
      refine bodyPost_ret (v := .tuple #[.agg #[.string ms[k].name, .int .i64 ms[k].stake, .int .i64 ms[k].shares, .int .i64 ms[k].cut, .bool ms[k].shut], .bool true]) (by simp [results, Tryz.results79, go_sem, hcd, hcc, hlt1]) rfl ⟨by rw [HN.out.1, HN.out.2], ?_⟩
      exact ((((HB2.out.setCell (Nat.le_refl _) _).setCell (Nat.le_refl _) _).setCell (Nat.le_refl _) _).setCell (Nat.le_refl _) _).setCell (Nat.le_refl _) _
    · have HN := Lib.hid (millIn_out hp)
      have hlo := mplace_lo ms s
      have hpe : placeV (mnames ms) s = -1 := by omega
      rw [hpe]
      clear hp hpe hlo
      go_wp2
      refine bodyPost_ret (v := .tuple #[.agg #[.string ByteArray.empty, .int .i64 0, .int .i64 0, .int .i64 0, .bool false], .bool false]) (by simp [results, Tryz.results79, go_sem, hcd, hcc, hlt1]; rfl) rfl ⟨by rw [HN.out.1, HN.out.2]; rfl, ?_⟩
      exact ((((HB2.out.setCell (Nat.le_refl _) _).setCell (Nat.le_refl _) _).setCell (Nat.le_refl _) _).setCell (Nat.le_refl _) _).setCell (Nat.le_refl _) _

theorem none_right {m : Mil} (h : millB m = true) : noneB m.stake m.shares = (m.shares == 0) := by
  have hp := millB_parts h
  by_cases h0 : m.shares = 0
  · have h1 : m.stake = 0 := by omega
    simp [noneB, h0, h1]
  · rw [none_pos (by omega)]; symm; simp [h0]

set_option maxHeartbeats 2000000 in
set_option maxRecDepth 100000 in
theorem iWorth_any (m : Mil) (n : Int) (w : World) (hs : m.name.size ≤ maxLen) :
    Calls Tryz.prog 80 #[.agg #[.string m.name, .int .i64 m.stake, .int .i64 m.shares, .int .i64 m.cut, .bool m.shut], .int .i64 n] w fun e w' => e = .returned (.int .i64 (worthV m n)) ∧ Below w.heap.size w w' := by
  have HS := Lib.hid hs
  clear hs
  go_enter Tryz.func80, Tryz.ntmps80
  go_wp2_with fail
  refine (iMillOk_any m _ HS.out).mono ?_
  rintro e w2 ⟨rfl, hb2⟩
  have HB2 := Lib.hid (below_trans (below_new w (.cells #[.string m.name, .int .i64 m.stake, .int .i64 m.shares, .int .i64 m.cut, .bool m.shut] 54)) hb2)
  obtain ⟨hcc, hff⟩ := kept_all hb2
  have hlt2 : w.heap.size < w2.heap.size := by have := hb2.size; simp at this; omega
  clear hb2
  cases hm : millB m
  · have HN := Lib.hid (worth_no (n := n) hm)
    go_wp2
    go_ret
    exact ⟨by rw [HN.out]; rfl, HB2.out⟩
  cases hi : inB 0 m.shares n
  · have HN := Lib.hid (worth_not hi)
    go_wp2_with (go_at_call 59; refine (within_any _ _ _).mono ?_; rintro e w' ⟨rfl, rfl⟩; rw [hi])
    go_ret
    exact ⟨by rw [HN.out]; rfl, HB2.out⟩
  have HZ := Lib.hid (none_right hm)
  go_wp2_with (go_at_call 59; refine (within_any _ _ _).mono ?_; rintro e w' ⟨rfl, rfl⟩; rw [hi])
  refine (iShare_any m _).mono ?_
  rintro e w3 ⟨rfl, hb3⟩
  have HB3 := Lib.hid (below_trans HB2.out hb3)
  obtain ⟨hcd, hfd⟩ := kept_all hb3
  have hlt3 : w.heap.size < w3.heap.size := by have := hb3.size; omega
  clear hb3
  go_wp2_with fail
  refine (iNone_any _ _ _).mono ?_
  rintro e w4 ⟨rfl, hb4⟩
  have HB4 := Lib.hid (below_trans HB3.out hb4)
  obtain ⟨hce, hfe⟩ := kept_all hb4
  clear hb4
  rw [HZ.out]
  cases hz : (m.shares == 0)
  · have HN := Lib.hid (worth_down hm hi (by simpa using hz))
    go_wp2_with fail
    refine (iDown_any _ _ _ _).mono ?_
    rintro e w5 ⟨rfl, hb5, -⟩
    have HB5 := Lib.hid (below_trans HB4.out hb5)
    clear hb5
    go_wp2
    go_ret
    exact ⟨by rw [HN.out]; rfl, HB5.out⟩
  · have HN := Lib.hid (worth_zero hm hi (by simpa using hz))
    go_wp2
    go_ret
    exact ⟨by rw [HN.out]; rfl, HB4.out⟩

set_option maxHeartbeats 2000000 in
set_option maxRecDepth 100000 in
theorem iStakesIn_any {w : World} {a : Option Addr} {ms : List Mil} (cap : Nat) (h : Recs Mil.cs w a ms) (hl : ms.length ≤ 9223372036854775807) (hs : Sized (mnames ms)) :
    Calls Tryz.prog 74 #[.slice a ms.length cap] w fun e w' => e = .returned (.int .i64 (stakesV ms)) ∧ Below w.heap.size w w' := by
  have H := Lib.hid h
  have HS := Lib.hid hs
  clear h hs
  go_enter Tryz.func74, Tryz.ntmps74
  go_wp2_with fail
  refine (iMillsOk_any _ H.out hl HS.out).mono ?_
  rintro e w1 ⟨rfl, hb1⟩
  have HB1 := Lib.hid hb1
  clear hb1
  cases hf : millsB ms
  · have HN := Lib.hid (show stakesV ms = -1 by simp [stakesV, hf])
    go_wp2
    go_ret
    exact ⟨by rw [HN.out]; rfl, HB1.out⟩
  have HN := Lib.hid (show stakesV ms = sumM ms ms.length by simp [stakesV, hf])
  obtain ⟨h4, hm, -⟩ := mills_true hf
  have HM := Lib.hid hm
  have HR := Lib.hid (H.out.below HB1.out)
  clear hm hf H
  go_wp2
  go_loopw [3, 11] (fun t i w' => ∃ k : Nat, k ≤ ms.length ∧ i = .int .i64 k ∧ t = .int .i64 (sumM ms k) ∧ Below w1.heap.size w1 w') (fun _ i _ => ms.length - (intOf i).toNat)
  case atStart => exact ⟨0, Nat.zero_le _, rfl, rfl, Below.refl _ _⟩
  case round =>
    obtain ⟨k, hk, rfl, rfl, hb⟩ := hrel
    have HB := Lib.hid hb
    clear hb
    have hb := sumM_bd HM.out k hk
    by_cases hlt : k < ms.length
    · obtain ⟨b, off, rfl, _, c0, c1, c2, c3, c4⟩ := Mil.at (HR.out.below HB.out) k hlt
      have HE := Lib.hid (show sumM ms (k + 1) = sumM ms k + ms[k].stake by simp only [sumM, getD_mil hlt])
      have HB2 := Lib.hid (below_trans HB.out (below_new _ (.cells #[.string ms[k].name, .int .i64 ms[k].stake, .int .i64 ms[k].shares, .int .i64 ms[k].cut, .bool ms[k].shut] 54)))
      have hb3 := (millB_parts (HM.out k hlt hlt)).1
      go_wp2
      go_roundw
      case rel => exact ⟨k + 1, by omega, by go_num, by rw [HE.out], HB2.out⟩
      case measure => simp [intOf]; omega
    · obtain rfl : k = ms.length := by omega
      go_wp2
      go_ret
      exact ⟨by rw [HN.out]; rfl, below_trans HB1.out HB.out⟩

end Go.Proofs.YtlnnchgaloejlaaGreat
namespace Go.Proofs.YtlnnchgaloejlaaGreat
open Go.Shelf

def sortPart_ren : Go.Shelf.Ren := ⟨fun | 6 => 143 | 15 => 165 | 14 => 164 | 28 => 181 | 29 => 182 | 20 => 173 | 21 => 174 | 22 => 175 | 23 => 176 | 24 => 177 | 25 => 178 | 26 => 179 | 27 => 180 | 46 => 184 | 47 => 185 | 48 => 186 | 49 => 187 | 50 => 188 | 57 => 189 | n => n, fun | 22 => 26 | 24 => 68 | 25 => 155 | 3 => 3 | 39 => 145 | 0 => 0 | 53 => 191 | 55 => 193 | 4 => 4 | 46 => 184 | 45 => 183 | 50 => 188 | 5 => 5 | 9 => 9 | 66 => 195 | 70 => 199 | 76 => 201 | 77 => 202 | n => n, fun | n => n⟩
theorem sortPart : Go.Proofs.SlLaysF0.n6 Tryz.prog sortPart_ren := {
  mixed := by kernel_rfl
  f6 := ⟨Tryz.f143.name, by decide, Tryz.func143.trans (congrArg some (by kernel_rfl))⟩
  f14 := ⟨Tryz.f164.name, by decide, Tryz.func164.trans (congrArg some (by kernel_rfl))⟩
  f15 := Tryz.func165.trans (congrArg some (by kernel_rfl))
  f20 := ⟨Tryz.f173.name, by decide, Tryz.func173.trans (congrArg some (by kernel_rfl))⟩
  f21 := ⟨Tryz.f174.name, by decide, Tryz.func174.trans (congrArg some (by kernel_rfl))⟩
  f22 := ⟨Tryz.f175.name, by decide, Tryz.func175.trans (congrArg some (by kernel_rfl))⟩
  f23 := ⟨Tryz.f176.name, by decide, Tryz.func176.trans (congrArg some (by kernel_rfl))⟩
  f24 := ⟨Tryz.f177.name, by decide, Tryz.func177.trans (congrArg some (by kernel_rfl))⟩
  f25 := ⟨Tryz.f178.name, by decide, Tryz.func178.trans (congrArg some (by kernel_rfl))⟩
  f26 := ⟨Tryz.f179.name, by decide, Tryz.func179.trans (congrArg some (by kernel_rfl))⟩
  f27 := ⟨Tryz.f180.name, by decide, Tryz.func180.trans (congrArg some (by kernel_rfl))⟩
  f28 := Tryz.func181.trans (congrArg some (by kernel_rfl))
  f29 := Tryz.func182.trans (congrArg some (by kernel_rfl))
  f46 := ⟨Tryz.f184.name, by decide, Tryz.func184.trans (congrArg some (by kernel_rfl))⟩
  f47 := Tryz.func185.trans (congrArg some (by kernel_rfl))
  f48 := Tryz.func186.trans (congrArg some (by kernel_rfl))
  f49 := ⟨Tryz.f187.name, by decide, Tryz.func187.trans (congrArg some (by kernel_rfl))⟩
  f50 := ⟨Tryz.f188.name, by decide, Tryz.func188.trans (congrArg some (by kernel_rfl))⟩
  f57 := ⟨Tryz.f189.name, by decide, Tryz.func189.trans (congrArg some (by kernel_rfl))⟩
  t0 := Tryz.underlying0
  a0 := Tryz.isAgg0
  z0 := Tryz.sizeOf0
  v0 := Tryz.zeroValue0
  t3 := Tryz.underlying3
  a3 := Tryz.isAgg3
  z3 := Tryz.sizeOf3
  v3 := Tryz.zeroValue3
  t4 := Tryz.underlying4
  a4 := Tryz.isAgg4
  z4 := Tryz.sizeOf4
  v4 := Tryz.zeroValue4
  t5 := Tryz.underlying5
  a5 := Tryz.isAgg5
  z5 := Tryz.sizeOf5
  v5 := Tryz.zeroValue5
  t9 := Tryz.underlying9
  a9 := Tryz.isAgg9
  z9 := Tryz.sizeOf9
  v9 := Tryz.zeroValue9
  t22 := Tryz.underlying26
  a22 := Tryz.isAgg26
  z22 := Tryz.sizeOf26
  v22 := Tryz.zeroValue26
  t25 := Tryz.underlying155
  a25 := Tryz.isAgg155
  z25 := Tryz.sizeOf155
  v25 := Tryz.zeroValue155
  t39 := Tryz.underlying145
  a39 := Tryz.isAgg145
  z39 := Tryz.sizeOf145
  v39 := Tryz.zeroValue145
  t45 := Tryz.underlying183
  a45 := Tryz.isAgg183
  z45 := Tryz.sizeOf183
  v45 := Tryz.zeroValue183
  t46 := Tryz.underlying184
  a46 := Tryz.isAgg184
  z46 := Tryz.sizeOf184
  v46 := Tryz.zeroValue184
  t50 := Tryz.underlying188
  a50 := Tryz.isAgg188
  z50 := Tryz.sizeOf188
  v50 := Tryz.zeroValue188
  t53 := Tryz.underlying191
  a53 := Tryz.isAgg191
  z53 := Tryz.sizeOf191
  v53 := Tryz.zeroValue191
  t55 := Tryz.underlying193
  a55 := Tryz.isAgg193
  z55 := Tryz.sizeOf193
  v55 := Tryz.zeroValue193
  t66 := Tryz.underlying195
  a66 := Tryz.isAgg195
  z66 := Tryz.sizeOf195
  v66 := Tryz.zeroValue195
  t70 := Tryz.underlying199
  a70 := Tryz.isAgg199
  z70 := Tryz.sizeOf199
  v70 := Tryz.zeroValue199
  t76 := Tryz.underlying201
  a76 := Tryz.isAgg201
  z76 := Tryz.sizeOf201
  v76 := Tryz.zeroValue201
  t77 := Tryz.underlying202
  a77 := Tryz.isAgg202
  z77 := Tryz.sizeOf202
  v77 := Tryz.zeroValue202 }

def equalPart_ren : Go.Shelf.Ren := ⟨fun | 8 => 160 | n => n, fun | 22 => 26 | 24 => 68 | 4 => 4 | 3 => 3 | 0 => 0 | n => n, fun | n => n⟩
theorem equalPart : Go.Proofs.SlLaysQ.n8 Tryz.prog equalPart_ren := {
  mixed := by kernel_rfl
  f8 := ⟨Tryz.f160.name, by decide, Tryz.func160.trans (congrArg some (by kernel_rfl))⟩
  t0 := Tryz.underlying0
  a0 := Tryz.isAgg0
  z0 := Tryz.sizeOf0
  v0 := Tryz.zeroValue0
  t3 := Tryz.underlying3
  a3 := Tryz.isAgg3
  z3 := Tryz.sizeOf3
  v3 := Tryz.zeroValue3
  t4 := Tryz.underlying4
  a4 := Tryz.isAgg4
  z4 := Tryz.sizeOf4
  v4 := Tryz.zeroValue4
  t22 := Tryz.underlying26
  a22 := Tryz.isAgg26
  z22 := Tryz.sizeOf26
  v22 := Tryz.zeroValue26 }
end Go.Proofs.YtlnnchgaloejlaaGreat
namespace Go.Proofs.YtlnnchgaloejlaaGreat
open Go.ChangeShapes Go.WideShapes Go.ChangeAt Go.RowKit
open Go.Shelf Go.Lib Go.Sort

theorem bytes_gt {a b : List UInt8} (h : ¬ a < b) (e : ¬ a = b) : b < a := by
  have : b ≤ a := List.not_lt.1 h
  rcases List.le_iff_lt_or_eq.1 this with h | h
  · exact h
  · exact absurd h.symm e
/-- Three ways. -/
def cmpS (a b : ByteArray) : Int := if Op.bytesLess a.toList b.toList = true then -1 else if Op.bytesLess b.toList a.toList = true then 1 else 0
theorem cmpS_lt {a b : ByteArray} (h : Op.bytesLess a.toList b.toList = true) : cmpS a b = -1 := by simp [cmpS, h]
theorem cmpS_gt {a b : ByteArray} (h : Op.bytesLess a.toList b.toList = false) (h' : Op.bytesLess b.toList a.toList = true) : cmpS a b = 1 := by simp [cmpS, h, h']
theorem cmpS_eq {a b : ByteArray} (h : Op.bytesLess a.toList b.toList = false) (h' : Op.bytesLess b.toList a.toList = false) : cmpS a b = 0 := by simp [cmpS, h, h']

theorem cmpS_same {a b : ByteArray} (h : (a.toList == b.toList) = true) : cmpS a b = 0 := by
  have e : a.toList = b.toList := by simpa using h
  apply cmpS_eq <;> rw [bytesLess_lt, decide_eq_false_iff_not, e] <;> exact List.lt_irrefl _
theorem cmpS_more {a b : ByteArray} (h : Op.bytesLess a.toList b.toList = false) (hn : (a.toList == b.toList) = false) : cmpS a b = 1 := by
  refine cmpS_gt h ?_
  have e : ¬ a.toList = b.toList := by simpa using hn
  rw [bytesLess_lt, decide_eq_false_iff_not] at h
  rw [bytesLess_lt, decide_eq_true_eq]
  exact bytes_gt h e

set_option maxHeartbeats 1000000 in
set_option maxRecDepth 100000 in
theorem iNaN_any (a : ByteArray) (w : World) : Calls Tryz.prog 183 #[.string a] w fun e w' => e = .returned (.bool false) ∧ w = w' := by
  go_enter Tryz.func183, Tryz.ntmps183
  go_wp2
  go_ret
  exact ⟨rfl, rfl⟩

set_option maxHeartbeats 1000000 in
set_option maxRecDepth 100000 in
theorem iCompare_any (a b : ByteArray) (w : World) :
    Calls Tryz.prog 167 #[.string a, .string b] w fun e w' => e = .returned (.int .i64 (cmpS a b)) ∧ w = w' := by
  cases h1 : Op.bytesLess a.toList b.toList
  · cases h2 : (a.toList == b.toList)
    · have HN := Lib.hid (cmpS_more h1 h2)
      go_enter Tryz.func167, Tryz.ntmps167
      go_wp2_with (go_at_call 183; refine (iNaN_any _ _).mono ?_; rintro e w' ⟨rfl, rfl⟩)
      go_ret
      exact ⟨by rw [HN.out]; rfl, rfl⟩
    · have HN := Lib.hid (cmpS_same h2)
      go_enter Tryz.func167, Tryz.ntmps167
      go_wp2_with (go_at_call 183; refine (iNaN_any _ _).mono ?_; rintro e w' ⟨rfl, rfl⟩)
      go_ret
      exact ⟨by rw [HN.out]; rfl, rfl⟩
  · have HN := Lib.hid (cmpS_lt h1)
    go_enter Tryz.func167, Tryz.ntmps167
    go_wp2_with (go_at_call 183; refine (iNaN_any _ _).mono ?_; rintro e w' ⟨rfl, rfl⟩)
    go_ret
    exact ⟨by rw [HN.out]; rfl, rfl⟩

/-- The first that is not 0. -/
def orI (x y : Int) : Int := if x = 0 then y else x
set_option maxHeartbeats 1000000 in
set_option maxRecDepth 100000 in
theorem iOr_any {w : World} {b : Nat} (x y : Int) (h0 : w.cell? ⟨b, 0, none⟩ = some (.int .i64 x)) (h1 : w.cell? ⟨b, 1, none⟩ = some (.int .i64 y)) :
    Calls Tryz.prog 166 #[.slice (some ⟨b, 0, none⟩) 2 2] w fun e w' => e = .returned (.int .i64 (orI x y)) ∧ w = w' := by
  go_enter Tryz.func166, Tryz.ntmps166
  go_wp2
  go_loop [8] (fun i => ∃ k : Nat, k ≤ 2 ∧ i = .int .i64 k ∧ (1 ≤ k → x = 0) ∧ (2 ≤ k → y = 0)) (fun i => 2 - (intOf i).toNat)
  case atStart => exact ⟨0, Nat.zero_le _, rfl, fun h => by omega, fun h => by omega⟩
  case round =>
    obtain ⟨k, hk, rfl, hx, hy⟩ := hrel
    match k, hk, hx, hy with
    | 0, _, _, _ =>
      by_cases hx : x = 0
      · subst hx
        go_wp2
        go_round
        case rel => exact ⟨1, by omega, by go_num, by simp, by simp⟩
        case measure => simp [intOf]
      · have HN := Lib.hid (show orI x y = x by simp [orI, hx])
        go_wp2
        go_ret
        exact ⟨by rw [HN.out]; rfl, rfl⟩
    | 1, _, hx, _ =>
      obtain rfl : x = 0 := hx (by omega)
      by_cases hy : y = 0
      · subst hy
        go_wp2
        go_round
        case rel => exact ⟨2, by omega, by go_num, by simp, by simp⟩
        case measure => simp [intOf]
      · have HN := Lib.hid (show orI 0 y = y by simp [orI])
        go_wp2
        go_ret
        exact ⟨by rw [HN.out]; rfl, rfl⟩
    | 2, _, hx, hy =>
      obtain rfl : x = 0 := hx (by omega)
      obtain rfl : y = 0 := hy (by omega)
      go_wp2
      go_ret
      exact ⟨rfl, rfl⟩

/-- By whose they are, then by the mill. -/
def cmpP (p q : Par) : Int := orI (cmpS p.who q.who) (cmpS p.mill q.mill)
end Go.Proofs.YtlnnchgaloejlaaGreat
namespace Go.Proofs.YtlnnchgaloejlaaGreat
open Go.ChangeShapes Go.WideShapes Go.ChangeAt Go.RowKit
open Go.Shelf Go.Lib Go.Sort

set_option maxHeartbeats 4000000 in
set_option maxRecDepth 100000 in
theorem iBy_any (p q : Par) (W : World) :
    Calls Tryz.prog 144 #[.agg #[.string p.who, .string p.mill, .int .i64 p.shares], .agg #[.string q.who, .string q.mill, .int .i64 q.shares]] W fun e w' => e = .returned (.int .i64 (cmpP p q)) ∧ ∃ n os, w' = grow (W.drewN n) os := by
  have HN : Hid (cmpP p q = orI (cmpS p.who q.who) (cmpS p.mill q.mill)) := rfl
  obtain ⟨x, HX⟩ : ∃ x, Hid (cmpS p.who q.who = x) := ⟨_, Lib.hid rfl⟩
  obtain ⟨y, HY⟩ : ∃ y, Hid (cmpS p.mill q.mill = y) := ⟨_, Lib.hid rfl⟩
  have hc1 : ∀ W', Calls Tryz.prog 167 #[.string p.who, .string q.who] W' fun e w' => e = .returned (.int .i64 x) ∧ w' = W' := fun W' => by rw [← HX.out]; exact (iCompare_any _ _ _).mono fun _ _ h => ⟨h.1, h.2.symm⟩
  have hc2 : ∀ W', Calls Tryz.prog 167 #[.string p.mill, .string q.mill] W' fun e w' => e = .returned (.int .i64 y) ∧ w' = W' := fun W' => by rw [← HY.out]; exact (iCompare_any _ _ _).mono fun _ _ h => ⟨h.1, h.2.symm⟩
  rw [HX.out, HY.out] at HN
  have HC1 := Lib.hid hc1
  have HC2 := Lib.hid hc2
  clear hc1 hc2 HX HY
  go_enter Tryz.func144, Tryz.ntmps144
  go_wp2_with fail
  obtain ⟨W2, hW2⟩ : ∃ W2, (W.alloc (.cells #[.string p.who, .string p.mill, .int .i64 p.shares] 68)).alloc (.cells #[.string q.who, .string q.mill, .int .i64 q.shares] 68) = W2 := ⟨_, rfl⟩
  have hp := (RecAt.new Par.cs W p 68).below (below_new _ (.cells #[.string q.who, .string q.mill, .int .i64 q.shares] 68))
  have hq := RecAt.new Par.cs (W.alloc (.cells #[.string p.who, .string p.mill, .int .i64 p.shares] 68)) q 68
  have hsz : (W.alloc (.cells #[.string p.who, .string p.mill, .int .i64 p.shares] 68)).heap.size = W.heap.size + 1 := by simp
  have c0 : W2.cell? ⟨W.heap.size, 0, none⟩ = some (.string p.who) := by rw [← hW2]; exact hp 0 _ rfl
  have c1 : W2.cell? ⟨W.heap.size, 1, none⟩ = some (.string p.mill) := by rw [← hW2]; exact hp 1 _ rfl
  have c2 : W2.cell? ⟨W.heap.size + 1, 0, none⟩ = some (.string q.who) := by rw [← hW2, ← hsz]; exact hq 0 _ rfl
  have c3 : W2.cell? ⟨W.heap.size + 1, 1, none⟩ = some (.string q.mill) := by rw [← hW2, ← hsz]; exact hq 1 _ rfl
  clear hp hq hsz
  have HE : Hid (∃ os, W2 = grow W os) := ⟨_, by rw [← hW2, alloc_eq_grow, alloc_eq_grow, grow_grow]⟩
  rw [hW2]
  clear hW2
  refine wp_region_still_tail 10 (by kernel_rfl) (by kernel_rfl) ?_
  simp only [List.take_succ_cons, List.take_zero, List.drop_succ_cons, List.drop_zero]
  change wpStill _ _ W2.drew _ _ _
  still_step
  still_step
  still_step
  still_step
  still_call (HC1.out _)
  still_step
  still_step
  still_step
  still_step
  still_call (HC2.out _)
  refine wpStill_nil ?_
  go_wp2_with (go_at_call 166; refine (iOr_any x y (by go_simp) (by go_simp)).mono ?_; rintro e w' ⟨rfl, rfl⟩)
  go_ret
  obtain ⟨os, hos⟩ := HE.out
  exact ⟨by rw [HN.out]; rfl, 1, _, by rw [hos, alloc_eq_grow]; exact grow_grow (W.drewN 1) os _⟩
end Go.Proofs.YtlnnchgaloejlaaGreat
