/-
  Texts joined: MillI, LayPart, PartT, PartG, Facts5, CmpPart, CmpBy, SortK, MapG, MapP.
-/
import Derived.Test.YtjlilmcilojkbaaGreatJ4
import Derived.Shelf.SlSortCmp.NoneTotal
import Derived.Shelf.SlicesQ.Equal
import Derived.StillTailTactics
import Derived.Maps.RangeWalk
import Derived.Maps.OwnOps
import Derived.DeepKeys4
namespace Go.Proofs.YtjlilmcilojkbaaGreat
open Go.ChangeShapes Go.WideShapes Go.ChangeAt Go.RowKit

/-- A mill as a value. -/
abbrev Mil.agg (m : Mil) : Value := .agg #[.string m.name, .int .i64 m.stake, .int .i64 m.shares, .int .i64 m.cut, .bool m.shut]

theorem iShare_any (m : Mil) (w : World) :
    Calls Tryz.prog 149 #[.agg #[.string m.name, .int .i64 m.stake, .int .i64 m.shares, .int .i64 m.cut, .bool m.shut]] w fun e w' => e = .returned (.agg #[.int .i64 m.stake, .int .i64 m.shares]) ∧ Below w.heap.size w w' := by
  go_enter Tryz.func149, Tryz.ntmps149
  go_wp2
  refine bodyPost_ret (v := .agg #[.int .i64 m.stake, .int .i64 m.shares]) (by simp [results, Tryz.results149, go_sem]) rfl ⟨rfl, ?_⟩
  exact below_trans (below_new _ _) (below_new _ _)

/-- None: no Stake and no Shares. -/
def noneB (x y : Int) : Bool := x == 0 && y == 0

theorem iNone_any (x y : Int) (w : World) :
    Calls Tryz.prog 150 #[.agg #[.int .i64 x, .int .i64 y]] w fun e w' => e = .returned (.bool (noneB x y)) ∧ Below w.heap.size w w' := by
  have HN : Hid (noneB x y = (x == 0 && y == 0)) := rfl
  have he := eq_share x y 0 0
  go_enter Tryz.func150, Tryz.ntmps150
  cases hx : (x == 0) <;> cases hy : (y == 0)
  all_goals
    go_wp2
    go_ret
    exact ⟨by rw [HN.out, hx, hy]; rfl, below_new _ _⟩

/-- What 'right' answers: all but the name. -/
def rightB (m : Mil) : Bool := inB 0 1000000 m.stake && (inB 0 1000000000 m.shares && ((m.stake == 0 || decide (0 < m.shares)) && inB 0 100 m.cut))
theorem millB_right (m : Mil) : millB m = (nameB m.name && rightB m) := rfl
theorem none_zero {x y : Int} (h : y = 0) : noneB x y = (x == 0) := by subst h; simp [noneB]
theorem none_pos {x y : Int} (h : 0 < y) : noneB x y = false := by
  have : (y == 0) = false := by simp; omega
  simp [noneB, this]

set_option maxHeartbeats 1000000 in
set_option maxRecDepth 100000 in
theorem mright_any (m : Mil) (w : World) :
    Calls Tryz.prog 148 #[.agg #[.string m.name, .int .i64 m.stake, .int .i64 m.shares, .int .i64 m.cut, .bool m.shut]] w fun e w' => e = .returned (.bool (rightB m)) ∧ Below w.heap.size w w' := by
  have HN : Hid (rightB m = (inB 0 1000000 m.stake && (inB 0 1000000000 m.shares && ((m.stake == 0 || decide (0 < m.shares)) && inB 0 100 m.cut)))) := rfl
  cases h2 : inB 0 1000000 m.stake
  · go_enter Tryz.func148, Tryz.ntmps148
    go_wp2_with (go_at_call 47; refine (iAmountOk_any _ _).mono ?_; rintro e w' ⟨rfl, rfl⟩; rw [h2])
    go_ret
    exact ⟨by rw [HN.out, h2]; rfl, below_new _ _⟩
  cases h3 : inB 0 1000000000 m.shares
  · go_enter Tryz.func148, Tryz.ntmps148
    go_wp2_with (first | (go_at_call 47; refine (iAmountOk_any _ _).mono ?_; rintro e w' ⟨rfl, rfl⟩; rw [h2]) | (go_at_call 108; refine (iSharesOk_any _ _).mono ?_; rintro e w' ⟨rfl, rfl⟩; rw [h3]))
    go_ret
    exact ⟨by rw [HN.out, h2, h3]; rfl, below_new _ _⟩
  cases h6 : inB 0 100 m.cut
  · go_enter Tryz.func148, Tryz.ntmps148
    go_wp2_with (first | (go_at_call 47; refine (iAmountOk_any _ _).mono ?_; rintro e w' ⟨rfl, rfl⟩; rw [h2]) | (go_at_call 108; refine (iSharesOk_any _ _).mono ?_; rintro e w' ⟨rfl, rfl⟩; rw [h3]) | (go_at_call 48; refine (within_any _ _ _).mono ?_; rintro e w' ⟨rfl, rfl⟩; rw [h6]))
    go_ret
    exact ⟨by rw [HN.out, h2, h3, h6]; simp, below_new _ _⟩
  cases h5 : decide (0 < m.shares)
  · have h0 : m.shares = 0 := by have := inB_true h3; simp at h5; omega
    have HZ := Lib.hid (none_zero (x := m.stake) h0)
    clear h0
    go_enter Tryz.func148, Tryz.ntmps148
    go_wp2_with (first | (go_at_call 47; refine (iAmountOk_any _ _).mono ?_; rintro e w' ⟨rfl, rfl⟩; rw [h2]) | (go_at_call 108; refine (iSharesOk_any _ _).mono ?_; rintro e w' ⟨rfl, rfl⟩; rw [h3]) | (go_at_call 48; refine (within_any _ _ _).mono ?_; rintro e w' ⟨rfl, rfl⟩; rw [h6]) | (go_at_call 149; refine (iShare_any m _).mono ?_; rintro e w2 ⟨rfl, hb2⟩; have HB2 := Lib.hid (below_trans (below_new _ _) hb2); clear hb2) | (go_at_call 150; refine (iNone_any _ _ _).mono ?_; rintro e w3 ⟨rfl, hb3⟩; have HB3 := Lib.hid (below_trans HB2.out hb3); clear hb3; rw [HZ.out]))
    go_ret
    exact ⟨by rw [HN.out, h2, h3, h5, h6]; simp, HB3.out⟩
  · go_enter Tryz.func148, Tryz.ntmps148
    go_wp2_with (first | (go_at_call 47; refine (iAmountOk_any _ _).mono ?_; rintro e w' ⟨rfl, rfl⟩; rw [h2]) | (go_at_call 108; refine (iSharesOk_any _ _).mono ?_; rintro e w' ⟨rfl, rfl⟩; rw [h3]) | (go_at_call 48; refine (within_any _ _ _).mono ?_; rintro e w' ⟨rfl, rfl⟩; rw [h6]))
    go_ret
    exact ⟨by rw [HN.out, h2, h3, h5, h6]; simp, below_new _ _⟩

theorem info_mstrs : (Tryz.prog.info? 9).map (fun i => (i.zero, i.size, i.bytes)) = some (some (.string ByteArray.empty), 1, 16) := by kernel_rfl
theorem mm_called (m : Mil) (w : World) : (method 283 48 (.agg #[.string m.name, .int .i64 m.stake, .int .i64 m.shares, .int .i64 m.cut, .bool m.shut]) "loop.example/g00614/impl.called").run Tryz.prog w = .ok (147, .agg #[.string m.name, .int .i64 m.stake, .int .i64 m.shares, .int .i64 m.cut, .bool m.shut]) w := by kernel_rfl
theorem mm_right (m : Mil) (w : World) : (method 283 48 (.agg #[.string m.name, .int .i64 m.stake, .int .i64 m.shares, .int .i64 m.cut, .bool m.shut]) "loop.example/g00614/impl.right").run Tryz.prog w = .ok (148, .agg #[.string m.name, .int .i64 m.stake, .int .i64 m.shares, .int .i64 m.cut, .bool m.shut]) w := by kernel_rfl

/-- What 'names' leaves: the names, in the block behind all that was there. -/
def MToNames (ms : List Mil) (w : World) (e : Ending) (w' : World) : Prop :=
  e = .returned (.slice (some ⟨w.heap.size, 0, none⟩) ms.length ms.length) ∧ Strs w' (some ⟨w.heap.size, 0, none⟩) (mnames ms) ∧ Below w.heap.size w w'

set_option maxHeartbeats 1000000 in
set_option maxRecDepth 100000 in
theorem mnames_any {w : World} {a : Option Addr} {ms : List Mil} (cap : Nat) (h : Recs Mil.cs w a ms) (hl : ms.length ≤ 1048576) :
    Calls Tryz.prog 65 #[.slice a ms.length cap] w (MToNames ms w) := by
  have H := Lib.hid h
  clear h
  have hmk := run_make_row' (P := Tryz.prog) 106 9 (.string ByteArray.empty) 16 Tryz.underlying106 info_mstrs rfl .i64 .i64 ms.length (by omega) (by omega)
  go_enter Tryz.func65, Tryz.ntmps65
  go_wp2
  clear hmk
  go_loopw [11] (fun i w' => ∃ k : Nat, k ≤ ms.length ∧ i = .int .i64 k ∧ Room w ms.length ((mnames ms).map .string) k w') (fun i _ => ms.length - (intOf i).toNat)
  case atStart => exact ⟨0, Nat.zero_le _, rfl, Room.new _ _ _ _ _⟩
  case round =>
    obtain ⟨k, hk, rfl, hr⟩ := hrel
    by_cases hlt : k < ms.length
    · obtain ⟨b, off, rfl, hb, hc0, hc1, hc2, hc3, hc4⟩ := Mil.at H.out k hlt
      have hd0 := (hr.low.cell (p := ⟨b, off + k * 5, none⟩) hb).trans hc0
      have hd1 := (hr.low.cell (p := ⟨b, off + k * 5 + 1, none⟩) hb).trans hc1
      have hd2 := (hr.low.cell (p := ⟨b, off + k * 5 + 2, none⟩) hb).trans hc2
      have hd3 := (hr.low.cell (p := ⟨b, off + k * 5 + 3, none⟩) hb).trans hc3
      have hd4 := (hr.low.cell (p := ⟨b, off + k * 5 + 4, none⟩) hb).trans hc4
      have hm := mm_called ms[k]
      obtain ⟨u, hu⟩ := hr.all k hlt
      have hf := hr.free k
      have hlo := hr.has
      have hle := hr.low.size
      have HR := Lib.hid (((hr.set (v := .string ms[k].name) hlt (by rw [List.getElem?_map, List.getElem?_eq_getElem (by rw [len_mn]; exact hlt)]; simp [mnames])).below (below_new _ (.cells #[.string ms[k].name, .int .i64 ms[k].stake, .int .i64 ms[k].shares, .int .i64 ms[k].cut, .bool ms[k].shut] 48))).below (below_new _ (.cells #[.string ms[k].name, .int .i64 ms[k].stake, .int .i64 ms[k].shares, .int .i64 ms[k].cut, .bool ms[k].shut] 48)))
      clear hr hc0 hc1 hc2 hc3 hc4
      go_wp2
      go_roundw
      case rel => exact ⟨k + 1, by omega, by go_num, HR.out⟩
      case measure => simp [intOf]; omega
    · obtain rfl : k = ms.length := by omega
      have HR := Lib.hid hr
      clear hr
      go_wp2
      go_ret
      exact ⟨rfl, HR.out.lies (by simp [mnames]), HR.out.low⟩

/-- The first n are right, names aside. -/
def MGood (ms : List Mil) (n : Nat) : Prop := ∀ j (h : j < ms.length), j < n → rightB ms[j] = true
theorem MGood.zero (ms : List Mil) : MGood ms 0 := fun _ _ h => by omega
theorem MGood.succ {ms : List Mil} {k : Nat} (h : MGood ms k) (hk : k < ms.length) (h1 : rightB ms[k] = true) : MGood ms (k + 1) := by
  intro j hj hlt
  by_cases e : j = k
  · subst e; exact h1
  · exact h j hj (by omega)
theorem MGood.all {ms : List Mil} (h : MGood ms ms.length) (hr : risesB (mnames ms) = true) : MRight ms ms.length := by
  intro j hj _
  rw [millB_right, h j hj hj, Bool.and_true, ← mnames_at hj]
  exact rises_name hr (by rw [len_mn]; exact hj)
theorem mills_bad {ms : List Mil} {k : Nat} (hk : k < ms.length) (h : rightB ms[k] = false) : millsB ms = false :=
  mills_not hk (by rw [millB_right, h, Bool.and_false])

set_option maxHeartbeats 1000000 in
set_option maxRecDepth 100000 in
theorem mok_any {w : World} {a : Option Addr} {ms : List Mil} (cap : Nat) (h : Recs Mil.cs w a ms) (hl : ms.length ≤ 9223372036854775807) (hs : Sized (mnames ms)) :
    Calls Tryz.prog 63 #[.slice a ms.length cap, .int .i64 4] w fun e w' => e = .returned (.bool (millsB ms)) ∧ Below w.heap.size w w' := by
  have H := Lib.hid h
  have HS := Lib.hid hs
  clear h hs
  by_cases h4 : ms.length ≤ 4
  case neg =>
    have HN := Lib.hid (mills_long h4)
    have hd : decide ((4 : Int) < (ms.length : Int)) = true := by simp; omega
    go_enter Tryz.func63, Tryz.ntmps63
    go_wp2
    go_ret
    exact ⟨by rw [HN.out]; rfl, Below.refl _ _⟩
  have hd : decide ((4 : Int) < (ms.length : Int)) = false := by simp; omega
  go_enter Tryz.func63, Tryz.ntmps63
  go_wp2
  go_loopw [13] (fun i w' => ∃ k : Nat, k ≤ ms.length ∧ i = .int .i64 k ∧ MGood ms k ∧ Below w.heap.size w w') (fun i _ => ms.length - (intOf i).toNat)
  case atStart => exact ⟨0, Nat.zero_le _, rfl, MGood.zero _, Below.refl _ _⟩
  case round =>
    obtain ⟨k, hk, rfl, hm, hb⟩ := hrel
    have HM := Lib.hid hm
    have HB := Lib.hid hb
    clear hm hb
    by_cases hlt : k < ms.length
    · obtain ⟨b, off, rfl, _, hc, hc1, hc2, hc3, hc4⟩ := Mil.at (H.out.below HB.out) k hlt
      have hmr := mm_right ms[k]
      cases hi : rightB ms[k]
      · have HN := Lib.hid (mills_bad hlt hi)
        go_wp2_with (go_at_call 148; refine (mright_any ms[k] _).mono ?_; rintro e w2 ⟨rfl, hb2⟩; rw [hi]; have HB2 := Lib.hid (below_trans HB.out (below_trans (below_new _ _) hb2)); clear hb2)
        go_ret
        exact ⟨by rw [HN.out]; rfl, HB2.out⟩
      · have HN := Lib.hid (HM.out.succ hlt hi)
        go_wp2_with (go_at_call 148; refine (mright_any ms[k] _).mono ?_; rintro e w2 ⟨rfl, hb2⟩; rw [hi]; have HB2 := Lib.hid (below_trans HB.out (below_trans (below_new _ _) hb2)); clear hb2)
        go_roundw
        case rel => exact ⟨k + 1, by omega, by go_num, HN.out, HB2.out⟩
        case measure => simp [intOf]; omega
    · obtain rfl : k = ms.length := by omega
      go_wp2_with fail
      refine (mnames_any _ (H.out.below HB.out) (by omega)).mono ?_
      rintro e w2 ⟨rfl, hs2, hb2⟩
      have HS2 := Lib.hid hs2
      have HB2 := Lib.hid (below_trans HB.out hb2)
      clear hs2 hb2
      have HP := Lib.hid (len_mn ms)
      have hri : Calls Tryz.prog 79 #[.slice (some ⟨wr.heap.size, 0, none⟩) ms.length ms.length] w2 fun e w' => e = .returned (.bool (risesB (mnames ms))) ∧ w2 = w' := by
        have := iRises_any ms.length HS2.out (by rw [HP.out]; omega) HS.out
        rw [HP.out] at this
        exact this
      have HRI := Lib.hid hri
      clear hri
      go_wp2_with fail
      refine HRI.out.mono ?_
      rintro e w' ⟨rfl, rfl⟩
      cases hr : risesB (mnames ms)
      · have HN := Lib.hid (mills_rise hr)
        go_wp2
        go_ret
        exact ⟨by rw [HN.out]; rfl, HB2.out⟩
      · have HN := Lib.hid (mills_yes h4 (HM.out.all hr) hr)
        go_wp2
        go_ret
        exact ⟨by rw [HN.out]; rfl, HB2.out⟩

theorem iMillsOk_any {w : World} {a : Option Addr} {ms : List Mil} (cap : Nat) (h : Recs Mil.cs w a ms) (hl : ms.length ≤ 9223372036854775807) (hs : Sized (mnames ms)) :
    Calls Tryz.prog 40 #[.slice a ms.length cap] w fun e w' => e = .returned (.bool (millsB ms)) ∧ Below w.heap.size w w' := by
  go_enter Tryz.func40, Tryz.ntmps40
  go_wp2_with (go_at_call 63; refine (mok_any _ h hl hs).mono ?_; rintro e w2 ⟨rfl, hb2⟩)
  go_ret
  exact ⟨rfl, hb2⟩

theorem mplace_any {w : World} {a : Option Addr} {ms : List Mil} (cap : Nat) (s : ByteArray) (h : Recs Mil.cs w a ms) (hl : ms.length ≤ 1048576) :
    Calls Tryz.prog 41 #[.slice a ms.length cap, .string s] w fun e w' => e = .returned (.int .i64 (placeV (mnames ms) s)) ∧ Below w.heap.size w w' := by
  have H := Lib.hid h
  clear h
  go_enter Tryz.func41, Tryz.ntmps41
  go_wp2_with fail
  refine (mnames_any _ H.out hl).mono ?_
  rintro e w2 ⟨rfl, hs2, hb2⟩
  have HB2 := Lib.hid hb2
  have HP := Lib.hid (len_mn ms)
  have hri : Calls Tryz.prog 64 #[.slice (some ⟨w.heap.size, 0, none⟩) ms.length ms.length, .string s] w2 fun e w' => e = .returned (.int .i64 (placeV (mnames ms) s)) ∧ w2 = w' := by
    have := iPlaceIn_any ms.length s hs2 (by rw [HP.out]; omega)
    rw [HP.out] at this
    exact this
  have HRI := Lib.hid hri
  clear hri hs2 hb2
  go_wp2_with fail
  refine HRI.out.mono ?_
  rintro e w' ⟨rfl, rfl⟩
  go_wp2
  go_ret
  exact ⟨rfl, HB2.out⟩

set_option maxHeartbeats 2000000 in
set_option maxRecDepth 100000 in
theorem iMillIn_any {w : World} {a : Option Addr} {ms : List Mil} (cap : Nat) (s : ByteArray) (h : Recs Mil.cs w a ms) (hl : ms.length ≤ 9223372036854775807) (hs : Sized (mnames ms)) :
    Calls Tryz.prog 21 #[.slice a ms.length cap, .string s] w (MillRes (millInV ms s) (millInB ms s) w) := by
  have H := Lib.hid h
  have HS := Lib.hid hs
  clear h hs
  go_enter Tryz.func21, Tryz.ntmps21
  go_wp2_with fail
  refine (iMillsOk_any _ (H.out.below (below_new _ _)) hl HS.out).mono ?_
  rintro e w1 ⟨rfl, hb1⟩
  have HB1 := Lib.hid (below_trans (below_new w (.cells #[.string ByteArray.empty, .int .i64 0, .int .i64 0, .int .i64 0, .bool false] 48)) hb1)
  have hlt1 : w.heap.size < w1.heap.size := by have := hb1.size; simp at this; omega
  obtain ⟨hcc, hff⟩ := kept_all hb1
  clear hb1
  cases hf : millsB ms
  · have HN := Lib.hid (millIn_no (s := s) hf)
    go_wp2
    refine bodyPost_ret (v := .tuple #[.agg #[.string ByteArray.empty, .int .i64 0, .int .i64 0, .int .i64 0, .bool false], .bool false]) (by simp [results, Tryz.results21, go_sem, hcc]; rfl) rfl ⟨by rw [HN.out.1, HN.out.2]; rfl, ?_⟩
    exact ((((HB1.out.setCell (Nat.le_refl _) _).setCell (Nat.le_refl _) _).setCell (Nat.le_refl _) _).setCell (Nat.le_refl _) _).setCell (Nat.le_refl _) _
  · have h4 := (mills_true hf).1
    go_wp2_with fail
    refine (mplace_any _ _ (H.out.below HB1.out) (by omega)).mono ?_
    rintro e w2 ⟨rfl, hb2⟩
    have HB2 := Lib.hid (below_trans HB1.out hb2)
    have hlt2 : w.heap.size < w2.heap.size := by have := hb2.size; omega
    obtain ⟨hcd, hfd⟩ := kept_all hb2
    clear hb2
    by_cases hp : 0 ≤ placeV (mnames ms) s
    · obtain ⟨k, e, hk, hq⟩ := place_hit hp
      have hk' : k < ms.length := by rw [len_mn] at hk; exact hk
      have HN := Lib.hid (millIn_in hf e hk')
      rw [e]
      obtain ⟨b, off, rfl, _, hc, hc1, hc2, hc3, hc4⟩ := Mil.at (H.out.below HB2.out) k hk'
      clear hp e hk hq
      go_wp2
      refine bodyPost_ret (v := .tuple #[.agg #[.string ms[k].name, .int .i64 ms[k].stake, .int .i64 ms[k].shares, .int .i64 ms[k].cut, .bool ms[k].shut], .bool true]) (by simp [results, Tryz.results21, go_sem, hcd, hcc, hlt1]) rfl ⟨by rw [HN.out.1, HN.out.2], ?_⟩
      exact ((((HB2.out.setCell (Nat.le_refl _) _).setCell (Nat.le_refl _) _).setCell (Nat.le_refl _) _).setCell (Nat.le_refl _) _).setCell (Nat.le_refl _) _
    · have HN := Lib.hid (millIn_out hp)
      have hlo := mplace_lo ms s
      have hpe : placeV (mnames ms) s = -1 := by omega
      rw [hpe]
      clear hp hpe hlo
      go_wp2
      refine bodyPost_ret (v := .tuple #[.agg #[.string ByteArray.empty, .int .i64 0, .int .i64 0, .int .i64 0, .bool false], .bool false]) (by simp [results, Tryz.results21, go_sem, hcd, hcc, hlt1]; rfl) rfl ⟨by rw [HN.out.1, HN.out.2]; rfl, ?_⟩
      exact ((((HB2.out.setCell (Nat.le_refl _) _).setCell (Nat.le_refl _) _).setCell (Nat.le_refl _) _).setCell (Nat.le_refl _) _).setCell (Nat.le_refl _) _

theorem none_right {m : Mil} (h : millB m = true) : noneB m.stake m.shares = (m.shares == 0) := by
  have hp := millB_parts h
  by_cases h0 : m.shares = 0
  · have h1 : m.stake = 0 := by omega
    simp [noneB, h0, h1]
  · rw [none_pos (by omega)]; symm; simp [h0]

/-- What 'bought' answers. -/
def boughtV (m : Mil) (n : Int) : Int := if noneB m.stake m.shares = true then 1000 * n else downV n m.shares m.stake

theorem down_zero (a b : Int) : downV a b 0 = -1 := by simp [downV, okD, inB]
/-- 'SharesFor' by 'bought'. -/
theorem for_bought {m : Mil} {n : Int} (hm : millB m = true) (hi : inB 1 1000000 n = true) : (-1 ≤ boughtV m n ∧ boughtV m n ≤ 1000000000000000000) ∧ sharesForV m n = if inB 0 1000000000 (m.shares + boughtV m n) = true then boughtV m n else -1 := by
  have hp := millB_parts hm
  have hn := inB_true hi
  unfold boughtV
  rw [none_right hm]
  by_cases h0 : 0 < m.shares
  · have e0 : (m.shares == 0) = false := by simp; omega
    rw [e0]
    by_cases hz : m.stake = 0
    · rw [hz, down_zero, for_no (buy_none h0 hz)]
      exact ⟨by simp, by simp⟩
    · have hv : buyV m n = downV n m.shares m.stake := by unfold buyV; rw [if_pos h0]
      have hb := buy_bd hm hi (by omega)
      rw [hv] at hb
      refine ⟨by simp; omega, ?_⟩
      cases ho : inB 0 1000000000 (m.shares + downV n m.shares m.stake)
      · rw [for_over (by rw [hv]; exact ho)]; simp [ho]
      · rw [for_yes (buy_yes hm hi (by omega)) (by rw [hv]; exact ho)]; simp [ho, hv]
  · have e0 : (m.shares == 0) = true := by simp; omega
    rw [e0]
    have hv : buyV m n = 1000 * n := by unfold buyV; rw [if_neg h0]
    refine ⟨by simp; omega, ?_⟩
    cases ho : inB 0 1000000000 (m.shares + 1000 * n)
    · rw [for_over (by rw [hv]; exact ho)]; simp [ho]
    · rw [for_yes (buy_yes hm hi (by omega)) (by rw [hv]; exact ho)]; simp [ho, hv]

set_option maxHeartbeats 2000000 in
set_option maxRecDepth 100000 in
theorem iStakesIn_any {w : World} {a : Option Addr} {ms : List Mil} (cap : Nat) (h : Recs Mil.cs w a ms) (hl : ms.length ≤ 9223372036854775807) (hs : Sized (mnames ms)) :
    Calls Tryz.prog 85 #[.slice a ms.length cap] w fun e w' => e = .returned (.int .i64 (stakesV ms)) ∧ Below w.heap.size w w' := by
  have H := Lib.hid h
  have HS := Lib.hid hs
  clear h hs
  go_enter Tryz.func85, Tryz.ntmps85
  go_wp2_with fail
  refine (iMillsOk_any _ H.out hl HS.out).mono ?_
  rintro e w1 ⟨rfl, hb1⟩
  have HB1 := Lib.hid hb1
  clear hb1
  cases hf : millsB ms
  · have HN := Lib.hid (show stakesV ms = -1 by simp [stakesV, hf])
    go_wp2
    go_ret
    exact ⟨by rw [HN.out]; rfl, HB1.out⟩
  have HN := Lib.hid (show stakesV ms = sumM ms ms.length by simp [stakesV, hf])
  obtain ⟨h4, hm, -⟩ := mills_true hf
  have HM := Lib.hid hm
  have HR := Lib.hid (H.out.below HB1.out)
  clear hm hf H
  go_wp2
  go_loopw [3, 11] (fun t i w' => ∃ k : Nat, k ≤ ms.length ∧ i = .int .i64 k ∧ t = .int .i64 (sumM ms k) ∧ Below w1.heap.size w1 w') (fun _ i _ => ms.length - (intOf i).toNat)
  case atStart => exact ⟨0, Nat.zero_le _, rfl, rfl, Below.refl _ _⟩
  case round =>
    obtain ⟨k, hk, rfl, rfl, hb⟩ := hrel
    have HB := Lib.hid hb
    clear hb
    have hb := sumM_bd HM.out k hk
    by_cases hlt : k < ms.length
    · obtain ⟨b, off, rfl, _, c0, c1, c2, c3, c4⟩ := Mil.at (HR.out.below HB.out) k hlt
      have HE := Lib.hid (show sumM ms (k + 1) = sumM ms k + ms[k].stake by simp only [sumM, getD_mil hlt])
      have HB2 := Lib.hid (below_trans HB.out (below_new _ (.cells #[.string ms[k].name, .int .i64 ms[k].stake, .int .i64 ms[k].shares, .int .i64 ms[k].cut, .bool ms[k].shut] 48)))
      have hb3 := (millB_parts (HM.out k hlt hlt)).1
      go_wp2
      go_roundw
      case rel => exact ⟨k + 1, by omega, by go_num, by rw [HE.out], HB2.out⟩
      case measure => simp [intOf]; omega
    · obtain rfl : k = ms.length := by omega
      go_wp2
      go_ret
      exact ⟨by rw [HN.out]; rfl, below_trans HB1.out HB.out⟩

theorem cheap_less {x y : Mil} (hx : millB x = true) (hy : millB y = true) : cheapB x y = decide (x.stake * y.shares < y.stake * x.shares) := by
  have h1 := millB_parts hx
  have h2 := millB_parts hy
  unfold cheapB
  rw [hx, hy]
  by_cases a : x.shares = 0
  · have e : x.stake = 0 := by omega
    simp [a, e]
  · by_cases b : y.shares = 0
    · have e : y.stake = 0 := by omega
      simp [b, e]
    · have ea : (x.shares == 0) = false := by simpa using a
      have eb : (y.shares == 0) = false := by simpa using b
      simp [ea, eb]

end Go.Proofs.YtjlilmcilojkbaaGreat
namespace Go.Proofs.YtjlilmcilojkbaaGreat
open Go.Shelf

def sortPart_ren : Go.Shelf.Ren := ⟨fun | 6 => 109 | 15 => 112 | 14 => 111 | 28 => 123 | 29 => 124 | 20 => 115 | 21 => 116 | 22 => 117 | 23 => 118 | 24 => 119 | 25 => 120 | 26 => 121 | 27 => 122 | 46 => 126 | 47 => 127 | 48 => 128 | 49 => 129 | 50 => 130 | 57 => 131 | n => n, fun | 22 => 32 | 24 => 75 | 25 => 137 | 3 => 3 | 39 => 140 | 0 => 0 | 53 => 152 | 55 => 154 | 4 => 4 | 46 => 145 | 45 => 144 | 50 => 149 | 5 => 5 | 9 => 9 | 66 => 156 | 70 => 160 | 76 => 162 | 77 => 163 | n => n, fun | n => n⟩
theorem sortPart : Go.Proofs.SlLaysF0.n6 Tryz.prog sortPart_ren := {
  mixed := by kernel_rfl
  f6 := ⟨Tryz.f109.name, by decide, Tryz.func109.trans (congrArg some (by kernel_rfl))⟩
  f14 := ⟨Tryz.f111.name, by decide, Tryz.func111.trans (congrArg some (by kernel_rfl))⟩
  f15 := Tryz.func112.trans (congrArg some (by kernel_rfl))
  f20 := ⟨Tryz.f115.name, by decide, Tryz.func115.trans (congrArg some (by kernel_rfl))⟩
  f21 := ⟨Tryz.f116.name, by decide, Tryz.func116.trans (congrArg some (by kernel_rfl))⟩
  f22 := ⟨Tryz.f117.name, by decide, Tryz.func117.trans (congrArg some (by kernel_rfl))⟩
  f23 := ⟨Tryz.f118.name, by decide, Tryz.func118.trans (congrArg some (by kernel_rfl))⟩
  f24 := ⟨Tryz.f119.name, by decide, Tryz.func119.trans (congrArg some (by kernel_rfl))⟩
  f25 := ⟨Tryz.f120.name, by decide, Tryz.func120.trans (congrArg some (by kernel_rfl))⟩
  f26 := ⟨Tryz.f121.name, by decide, Tryz.func121.trans (congrArg some (by kernel_rfl))⟩
  f27 := ⟨Tryz.f122.name, by decide, Tryz.func122.trans (congrArg some (by kernel_rfl))⟩
  f28 := Tryz.func123.trans (congrArg some (by kernel_rfl))
  f29 := Tryz.func124.trans (congrArg some (by kernel_rfl))
  f46 := ⟨Tryz.f126.name, by decide, Tryz.func126.trans (congrArg some (by kernel_rfl))⟩
  f47 := Tryz.func127.trans (congrArg some (by kernel_rfl))
  f48 := Tryz.func128.trans (congrArg some (by kernel_rfl))
  f49 := ⟨Tryz.f129.name, by decide, Tryz.func129.trans (congrArg some (by kernel_rfl))⟩
  f50 := ⟨Tryz.f130.name, by decide, Tryz.func130.trans (congrArg some (by kernel_rfl))⟩
  f57 := ⟨Tryz.f131.name, by decide, Tryz.func131.trans (congrArg some (by kernel_rfl))⟩
  t0 := Tryz.underlying0
  a0 := Tryz.isAgg0
  z0 := Tryz.sizeOf0
  v0 := Tryz.zeroValue0
  t3 := Tryz.underlying3
  a3 := Tryz.isAgg3
  z3 := Tryz.sizeOf3
  v3 := Tryz.zeroValue3
  t4 := Tryz.underlying4
  a4 := Tryz.isAgg4
  z4 := Tryz.sizeOf4
  v4 := Tryz.zeroValue4
  t5 := Tryz.underlying5
  a5 := Tryz.isAgg5
  z5 := Tryz.sizeOf5
  v5 := Tryz.zeroValue5
  t9 := Tryz.underlying9
  a9 := Tryz.isAgg9
  z9 := Tryz.sizeOf9
  v9 := Tryz.zeroValue9
  t22 := Tryz.underlying32
  a22 := Tryz.isAgg32
  z22 := Tryz.sizeOf32
  v22 := Tryz.zeroValue32
  t25 := Tryz.underlying137
  a25 := Tryz.isAgg137
  z25 := Tryz.sizeOf137
  v25 := Tryz.zeroValue137
  t39 := Tryz.underlying140
  a39 := Tryz.isAgg140
  z39 := Tryz.sizeOf140
  v39 := Tryz.zeroValue140
  t45 := Tryz.underlying144
  a45 := Tryz.isAgg144
  z45 := Tryz.sizeOf144
  v45 := Tryz.zeroValue144
  t46 := Tryz.underlying145
  a46 := Tryz.isAgg145
  z46 := Tryz.sizeOf145
  v46 := Tryz.zeroValue145
  t50 := Tryz.underlying149
  a50 := Tryz.isAgg149
  z50 := Tryz.sizeOf149
  v50 := Tryz.zeroValue149
  t53 := Tryz.underlying152
  a53 := Tryz.isAgg152
  z53 := Tryz.sizeOf152
  v53 := Tryz.zeroValue152
  t55 := Tryz.underlying154
  a55 := Tryz.isAgg154
  z55 := Tryz.sizeOf154
  v55 := Tryz.zeroValue154
  t66 := Tryz.underlying156
  a66 := Tryz.isAgg156
  z66 := Tryz.sizeOf156
  v66 := Tryz.zeroValue156
  t70 := Tryz.underlying160
  a70 := Tryz.isAgg160
  z70 := Tryz.sizeOf160
  v70 := Tryz.zeroValue160
  t76 := Tryz.underlying162
  a76 := Tryz.isAgg162
  z76 := Tryz.sizeOf162
  v76 := Tryz.zeroValue162
  t77 := Tryz.underlying163
  a77 := Tryz.isAgg163
  z77 := Tryz.sizeOf163
  v77 := Tryz.zeroValue163 }

def equalPart_ren : Go.Shelf.Ren := ⟨fun | 8 => 105 | n => n, fun | 22 => 32 | 24 => 75 | 4 => 4 | 3 => 3 | 0 => 0 | n => n, fun | n => n⟩
theorem equalPart : Go.Proofs.SlLaysQ.n8 Tryz.prog equalPart_ren := {
  mixed := by kernel_rfl
  f8 := ⟨Tryz.f105.name, by decide, Tryz.func105.trans (congrArg some (by kernel_rfl))⟩
  t0 := Tryz.underlying0
  a0 := Tryz.isAgg0
  z0 := Tryz.sizeOf0
  v0 := Tryz.zeroValue0
  t3 := Tryz.underlying3
  a3 := Tryz.isAgg3
  z3 := Tryz.sizeOf3
  v3 := Tryz.zeroValue3
  t4 := Tryz.underlying4
  a4 := Tryz.isAgg4
  z4 := Tryz.sizeOf4
  v4 := Tryz.zeroValue4
  t22 := Tryz.underlying32
  a22 := Tryz.isAgg32
  z22 := Tryz.sizeOf32
  v22 := Tryz.zeroValue32 }
end Go.Proofs.YtjlilmcilojkbaaGreat
namespace Go.Proofs.YtjlilmcilojkbaaGreat
open Go.ChangeShapes Go.WideShapes Go.ChangeAt Go.RowKit

/-- Shares of number k are v. -/
def setSh : List Par → Nat → Int → List Par
  | [], _, _ => []
  | p :: r, 0, v => ⟨p.who, p.mill, v⟩ :: r
  | p :: r, k + 1, v => p :: setSh r k v
theorem setSh_length : ∀ (ps : List Par) (k : Nat) (v : Int), (setSh ps k v).length = ps.length
  | [], _, _ => rfl
  | p :: r, 0, v => rfl
  | p :: r, k + 1, v => by simp [setSh, setSh_length r k v]
theorem setSh_cells : ∀ (ps : List Par) (k : Nat) (v : Int), k < ps.length → (setSh ps k v).flatMap Par.cs = (ps.flatMap Par.cs).set (k * 3 + 2) (.int .i64 v)
  | p :: r, 0, v, _ => by simp [setSh, Par.cs]
  | p :: r, k + 1, v, h => by
    rw [setSh, List.flatMap_cons, List.flatMap_cons, setSh_cells r k v (by simpa using h), show (k + 1) * 3 + 2 = k * 3 + 2 + 3 by omega]
    simp [Par.cs]
/-- Number k has n less; none where 0 are left. -/
def takeAt (ps : List Par) (k : Nat) (n : Int) : List Par := if (patn ps k).shares - n = 0 then ps.take k ++ ps.drop (k + 1) else setSh ps k ((patn ps k).shares - n)

/-- Is it took? -/
noncomputable def tookB (ps : List Par) (who mill : ByteArray) (n : Int) : Bool := partsB ps && (decide (0 ≤ pfindV ps who mill) && inB 1 (patn ps (pfindV ps who mill).toNat).shares n)
/-- What they are then. -/
noncomputable def tookL (ps : List Par) (who mill : ByteArray) (n : Int) : List Par :=
  if partsB ps = true then (if tookB ps who mill n = true then takeAt ps (pfindV ps who mill).toNat n else ps) else []
section
variable {ps : List Par} {who mill : ByteArray} {n : Int}
theorem took_no (h : partsB ps = false) : tookB ps who mill n = false ∧ tookL ps who mill n = [] := by simp [tookB, tookL, h]
theorem took_keep (h : partsB ps = true) (hb : tookB ps who mill n = false) : tookL ps who mill n = ps := by simp [tookL, h, hb]
theorem took_out (h : ¬ 0 ≤ pfindV ps who mill) : tookB ps who mill n = false := by simp [tookB, h]
theorem took_n {k : Nat} (e : pfindV ps who mill = k) (hk : k < ps.length) (h : inB 1 ps[k].shares n = false) : tookB ps who mill n = false := by
  have : patn ps (pfindV ps who mill).toNat = ps[k] := by rw [e]; exact patn_eq hk
  simp [tookB, this, h]
theorem took_yes {k : Nat} (hf : partsB ps = true) (e : pfindV ps who mill = k) (hk : k < ps.length) (h : inB 1 ps[k].shares n = true) : tookB ps who mill n = true ∧ tookL ps who mill n = takeAt ps k n := by
  have h1 : patn ps (pfindV ps who mill).toNat = ps[k] := by rw [e]; exact patn_eq hk
  have h2 : tookB ps who mill n = true := by unfold tookB; rw [h1, hf, h, e]; simp
  refine ⟨h2, ?_⟩
  rw [tookL, if_pos hf, if_pos h2, e]; rfl
end

/-- Where those behind number k lie. -/
theorem drop_at {w : World} {b off k : Nat} {ps : List Par} (cap : Nat) (h : Recs Par.cs w (some ⟨b, off, none⟩) ps) (hk : k < ps.length) (hc : ps.length ≤ cap) :
    ∃ A, (if cap = k + 1 then some (⟨b, off, none⟩ : Addr) else some ⟨b, off + (k + 1) * 3, none⟩) = some A ∧ ∀ W, Below w.heap.size w W → ∀ j u, ((ps.drop (k + 1)).flatMap Par.cs)[j]? = some u → W.cell? (A.add j) = some u := by
  by_cases e : cap = k + 1
  · refine ⟨_, if_pos e, fun W _ j u hj => ?_⟩
    have : ps.drop (k + 1) = [] := List.drop_eq_nil_of_le (by omega)
    rw [this] at hj; simp at hj
  · refine ⟨_, if_neg e, fun W hb j u hj => ?_⟩
    rw [flat_drop Par.len, List.getElem?_drop] at hj
    obtain ⟨b', off', e', hc'⟩ := (h.below hb) _ u hj
    injection e' with e'; injection e' with e1 e2; subst e1; subst e2
    rw [add_plain, Nat.add_assoc]; exact hc'
/-- A list of the call's own comes back, and a word. -/
def ResB (out : List Par) (ok : Bool) (w : World) (e : Ending) (w' : World) : Prop :=
  ∃ b cap, e = .returned (.tuple #[.slice (some ⟨b, 0, none⟩) out.length cap, .bool ok]) ∧ w'.ownsRow w.heap.size 75 3 (.slice (some ⟨b, 0, none⟩) out.length cap) out.length (out.flatMap Par.cs) ∧ Below w.heap.size w w'
theorem resB_own {out : List Par} {ok : Bool} {w : World} {e : Ending} {w' : World} (h : ResB out ok w e w') : ResOB Par.cs 3 out ok w e w' := by
  obtain ⟨b, cap, he, ho, hb⟩ := h
  obtain ⟨a, c', e1, hr, -⟩ := ownR_of Par.len ho
  injection e1 with e1 e2 e3
  subst e1; subst e3
  exact ⟨_, _, he, hr, hb, (own_some ho).2.1⟩

end Go.Proofs.YtjlilmcilojkbaaGreat
namespace Go.Proofs.YtjlilmcilojkbaaGreat
open Go.ChangeShapes Go.WideShapes Go.ChangeAt Go.RowKit

/-- How many are ahead of it. -/
noncomputable def lowAt : List Par → ByteArray → ByteArray → Nat
  | [], _, _ => 0
  | p :: r, who, mill => if lessB p who mill = true then lowAt r who mill + 1 else 0
theorem lowAt_le : ∀ (ps : List Par) (who mill : ByteArray), lowAt ps who mill ≤ ps.length
  | [], _, _ => by simp [lowAt]
  | p :: r, who, mill => by
    have := lowAt_le r who mill
    simp only [lowAt, List.length_cons]
    split <;> omega
theorem lowAt_is : ∀ (ps : List Par) (who mill : ByteArray) (k : Nat), k ≤ ps.length → (∀ j (h : j < ps.length), j < k → lessB ps[j] who mill = true) → (∀ h : k < ps.length, lessB ps[k] who mill = false) → lowAt ps who mill = k
  | [], _, _, k, hk, _, _ => by simp at hk; simp [lowAt, hk]
  | p :: r, who, mill, 0, _, _, h2 => by
    have := h2 (by simp)
    simp only [List.getElem_cons_zero] at this
    simp [lowAt, this]
  | p :: r, who, mill, k + 1, hk, h1, h2 => by
    have h0 := h1 0 (by simp) (by omega)
    simp only [List.getElem_cons_zero] at h0
    have := lowAt_is r who mill k (by simpa using hk) (fun j h hj => by have := h1 (j + 1) (by simpa using h) (by omega); simpa using this) (fun h => by have := h2 (by simpa using h); simpa using this)
    simp [lowAt, h0, this]
/-- n more of these, a new one where there is none. -/
noncomputable def giveAt (ps : List Par) (who mill : ByteArray) (n : Int) : List Par :=
  if 0 ≤ pfindV ps who mill then setSh ps (pfindV ps who mill).toNat ((patn ps (pfindV ps who mill).toNat).shares + n)
  else ps.take (lowAt ps who mill) ++ [⟨who, mill, n⟩] ++ ps.drop (lowAt ps who mill)
/-- Is it given? -/
noncomputable def gaveB (ps : List Par) (who mill : ByteArray) (n : Int) : Bool := partsB ps && (inB 1 1000000000 n && partsB (giveAt ps who mill n))
/-- What they are then. -/
noncomputable def gaveL (ps : List Par) (who mill : ByteArray) (n : Int) : List Par :=
  if partsB ps = true then (if gaveB ps who mill n = true then giveAt ps who mill n else ps) else []
section
variable {ps : List Par} {who mill : ByteArray} {n : Int}
theorem gave_no (h : partsB ps = false) : gaveB ps who mill n = false ∧ gaveL ps who mill n = [] := by simp [gaveB, gaveL, h]
theorem gave_keep (h : partsB ps = true) (hb : gaveB ps who mill n = false) : gaveL ps who mill n = ps := by simp [gaveL, h, hb]
theorem gave_n (h : inB 1 1000000000 n = false) : gaveB ps who mill n = false := by simp [gaveB, h]
theorem gave_not (h : partsB (giveAt ps who mill n) = false) : gaveB ps who mill n = false := by simp [gaveB, h]
theorem gave_yes (hf : partsB ps = true) (hn : inB 1 1000000000 n = true) (h : partsB (giveAt ps who mill n) = true) : gaveB ps who mill n = true ∧ gaveL ps who mill n = giveAt ps who mill n := by
  have h2 : gaveB ps who mill n = true := by simp [gaveB, hf, hn, h]
  exact ⟨h2, by rw [gaveL, if_pos hf, if_pos h2]⟩
end
theorem setSh_at : ∀ (ps : List Par) (k : Nat) (v : Int) (j : Nat) (h : j < (setSh ps k v).length), ((setSh ps k v)[j]).who = (patn ps j).who ∧ ((setSh ps k v)[j]).mill = (patn ps j).mill ∧ ((setSh ps k v)[j]).shares = if j = k then v else (patn ps j).shares
  | [], _, _, j, h => by simp [setSh] at h
  | p :: r, 0, v, 0, _ => by simp [setSh, patn]
  | p :: r, 0, v, j + 1, h => by
    have hj : j < r.length := by simpa [setSh] using h
    simp [setSh, patn, hj]
  | p :: r, k + 1, v, 0, _ => by simp [setSh, patn]
  | p :: r, k + 1, v, j + 1, h => by
    have := setSh_at r k v j (by simpa [setSh] using h)
    simpa [setSh, patn] using this
theorem psized_set {ps : List Par} (hs : PSized ps) (k : Nat) (v : Int) : PSized (setSh ps k v) := by
  intro j hj
  have hj' : j < ps.length := by rw [setSh_length] at hj; exact hj
  obtain ⟨e1, e2, -⟩ := setSh_at ps k v j hj
  rw [e1, e2, patn_eq hj']
  exact hs j hj'
theorem psized_mem {ps : List Par} : PSized ps ↔ ∀ p ∈ ps, p.who.size ≤ maxLen ∧ p.mill.size ≤ maxLen :=
  ⟨fun h p hp => by obtain ⟨k, hk, rfl⟩ := List.getElem_of_mem hp; exact h k hk, fun h k hk => h _ (List.getElem_mem hk)⟩
theorem psized_put {ps : List Par} (hs : PSized ps) {who mill : ByteArray} (hw : who.size ≤ maxLen) (hm : mill.size ≤ maxLen) (n : Int) (k : Nat) : PSized (ps.take k ++ [⟨who, mill, n⟩] ++ ps.drop k) := by
  rw [psized_mem] at hs ⊢
  intro p hp
  simp only [List.mem_append, List.mem_singleton] at hp
  rcases hp with (hp | rfl) | hp
  · exact hs p (List.mem_of_mem_take hp)
  · exact ⟨hw, hm⟩
  · exact hs p (List.mem_of_mem_drop hp)
/-- 'PartsOk' of a list that the call owns. -/
theorem ok_own {W : World} {base g c L : Nat} {out : List Par} (ho : W.ownsRow base 75 3 (.slice (some ⟨g, 0, none⟩) L c) L (out.flatMap Par.cs)) (hl : out.length = L) (hL : L ≤ 1048577) (hs : PSized out) :
    Calls Tryz.prog 56 #[.slice (some ⟨g, 0, none⟩) L c] W fun e w' => e = .returned (.bool (partsB out)) ∧ Below W.heap.size W w' := by
  subst hl
  obtain ⟨a, cap, e, hr, -⟩ := ownR_of Par.len ho
  injection e with e1 e2 e3
  subst e1; subst e3
  exact sPartsOk_any _ hr.1 (by omega) hs

theorem giveAt_le (ps : List Par) (who mill : ByteArray) (n : Int) : (giveAt ps who mill n).length ≤ ps.length + 1 := by
  unfold giveAt
  split
  · rw [setSh_length]; omega
  · have := lowAt_le ps who mill
    simp; omega
theorem gaveL_le (ps : List Par) (who mill : ByteArray) (n : Int) : (gaveL ps who mill n).length ≤ 20 := by
  unfold gaveL
  split
  · rename_i hf
    split
    · rename_i hb
      simp only [gaveB, Bool.and_eq_true] at hb
      exact (parts_true hb.2.2).1
    · exact (parts_true hf).1
  · exact Nat.zero_le _
theorem takeAt_le {ps : List Par} {k : Nat} (hk : k < ps.length) (n : Int) : (takeAt ps k n).length ≤ ps.length := by
  unfold takeAt
  split
  · simp; omega
  · rw [setSh_length]; exact Nat.le_refl _
theorem tookL_le (ps : List Par) (who mill : ByteArray) (n : Int) : (tookL ps who mill n).length ≤ 20 := by
  unfold tookL
  split
  · rename_i hf
    have h20 := (parts_true hf).1
    split
    · rename_i hb
      simp only [tookB, Bool.and_eq_true, decide_eq_true_eq] at hb
      obtain ⟨k, e, hk, -⟩ := pfind_hit hb.2.1
      have := takeAt_le hk n
      rw [e]
      exact Nat.le_trans this h20
    · exact h20
  · exact Nat.zero_le _
theorem partsFor_le (ps : List Par) (who : ByteArray) : (partsForV ps who).length ≤ 20 := by
  unfold partsForV
  split
  · rename_i hf
    exact Nat.le_trans (ofWho_le who ps) (parts_true hf).1
  · exact Nat.zero_le _
theorem sized_Part {ps : List Par} (hs : ∀ p ∈ ps, p.fits) : PSized ps :=
  psized_mem.2 fun p hp => ⟨Nat.le_trans (hs p hp).1 (by unfold maxLen; omega), Nat.le_trans (hs p hp).2 (by unfold maxLen; omega)⟩
end Go.Proofs.YtjlilmcilojkbaaGreat
namespace Go.Proofs.YtjlilmcilojkbaaGreat
open Go.ChangeShapes Go.WideShapes Go.ChangeAt Go.RowKit

theorem less_iff {p : Par} {who mill : ByteArray} : lessB p who mill = true ↔ p.who.toList < who.toList ∨ (p.who.toList = who.toList ∧ p.mill.toList < mill.toList) := by
  unfold lessB
  split
  · rename_i h
    have e : p.who.toList = who.toList := by simpa using h
    rw [bytesLess_lt, decide_eq_true_eq, e]
    constructor
    · exact fun h => .inr ⟨rfl, h⟩
    · rintro (h | ⟨_, h⟩)
      · exact absurd h (List.lt_irrefl _)
      · exact h
  · rename_i h
    have e : ¬ p.who.toList = who.toList := by simpa using h
    rw [bytesLess_lt, decide_eq_true_eq]
    constructor
    · exact fun h => .inl h
    · rintro (h | ⟨h, _⟩)
      · exact h
      · exact absurd h e
/-- p is ahead of q. -/
def KeyLt (p q : Par) : Prop := lessB p q.who q.mill = true
theorem KeyLt.trans {p q r : Par} (h : KeyLt p q) (k : KeyLt q r) : KeyLt p r := by
  unfold KeyLt at *
  rw [less_iff] at *
  rcases h with h | ⟨h, h'⟩ <;> rcases k with k | ⟨k, k'⟩
  · exact .inl (List.lt_trans h k)
  · exact .inl (k ▸ h)
  · exact .inl (h ▸ k)
  · exact .inr ⟨h.trans k, List.lt_trans h' k'⟩
theorem KeyLt.ne {p q : Par} (h : KeyLt p q) {who mill : ByteArray} (hp : isB p who mill = true) : isB q who mill = false := by
  cases hq : isB q who mill
  · rfl
  · simp only [isB, Bool.and_eq_true, beq_iff_eq] at hp hq
    unfold KeyLt at h
    rw [less_iff, hp.1, hp.2, hq.1, hq.2] at h
    rcases h with h | ⟨_, h⟩ <;> exact absurd h (List.lt_irrefl _)
theorem up_less {ps : List Par} (h : PUp ps ps.length) {j : Nat} : ∀ m (hm : j + 1 + m < ps.length), KeyLt (ps[j]'(by omega)) ps[j + 1 + m]
  | 0, hm => h.2 j hm hm
  | m + 1, hm => (up_less h m (by omega)).trans (h.2 (j + 1 + m) hm hm)
theorem up_pair {ps : List Par} : PUp ps ps.length ↔ (∀ p ∈ ps, partB p = true) ∧ ps.Pairwise KeyLt := by
  constructor
  · intro h
    refine ⟨fun p hp => ?_, ?_⟩
    · obtain ⟨k, hk, rfl⟩ := List.getElem_of_mem hp; exact h.1 k hk hk
    · rw [List.pairwise_iff_getElem]
      intro i j hi hj hij
      have := up_less h (j := i) (j - (i + 1)) (by omega)
      simpa [show i + 1 + (j - (i + 1)) = j by omega] using this
  · rintro ⟨h1, h2⟩
    rw [List.pairwise_iff_getElem] at h2
    exact ⟨fun j hj _ => h1 _ (List.getElem_mem hj), fun j hj _ => h2 j (j + 1) (by omega) hj (by omega)⟩
theorem parts_pair {ps : List Par} : partsB ps = true ↔ ps.length ≤ 20 ∧ (∀ p ∈ ps, partB p = true) ∧ ps.Pairwise KeyLt := by
  rw [← up_pair]
  exact ⟨parts_true, fun h => parts_yes h.1 h.2⟩

theorem pfind_at {ps : List Par} (h : ps.Pairwise KeyLt) {k : Nat} (hk : k < ps.length) {who mill : ByteArray} (hq : isB ps[k] who mill = true) : pfindV ps who mill = k := by
  refine findUp_at hk (fun j hj => ?_) (by rw [patn_eq hk]; exact hq)
  rw [List.pairwise_iff_getElem] at h
  have := h j k (by omega) hk hj
  rw [patn_eq (by omega)]
  cases e : isB ps[j] who mill
  · rfl
  · rw [this.ne e] at hq; cases hq
theorem pfind_none {ps : List Par} {who mill : ByteArray} (h : ∀ p ∈ ps, isB p who mill = false) : pfindV ps who mill = -1 :=
  findUp_out fun j hj => by rw [patn_eq hj]; exact h _ (List.getElem_mem hj)
theorem pfind_neg {ps : List Par} {who mill : ByteArray} (h : ¬ 0 ≤ pfindV ps who mill) : ∀ p ∈ ps, isB p who mill = false := by
  intro p hp
  obtain ⟨k, hk, rfl⟩ := List.getElem_of_mem hp
  cases hq : isB ps[k] who mill
  · rfl
  · exfalso
    -- the first of which it holds
    have : ∀ m, (∀ j, j < m → ∀ hj : j < ps.length, isB ps[j] who mill = false) ∨ 0 ≤ pfindV ps who mill := by
      intro m
      induction m with
      | zero => exact .inl fun _ h => by omega
      | succ m ih =>
        rcases ih with ih | ih
        · by_cases hm : m < ps.length
          · cases e : isB ps[m] who mill
            · refine .inl fun j hj hl => ?_
              by_cases ej : j = m
              · subst ej; exact e
              · exact ih j (by omega) hl
            · right
              have : pfindV ps who mill = m := findUp_at hm (fun j hj => by rw [patn_eq (by omega)]; exact ih j hj (by omega)) (by rw [patn_eq hm]; exact e)
              omega
          · exact .inl fun j hj hl => ih j (by omega) hl
        · exact .inr ih
    rcases this (k + 1) with h1 | h1
    · rw [h1 k (by omega) hk] at hq; cases hq
    · exact h h1

theorem setSh_set : ∀ (ps : List Par) (k : Nat) (v : Int), setSh ps k v = ps.set k ⟨(patn ps k).who, (patn ps k).mill, v⟩
  | [], _, _ => rfl
  | p :: r, 0, v => by simp [setSh, patn]
  | p :: r, k + 1, v => by
    have := setSh_set r k v
    simp only [setSh, this, List.set_cons_succ, patn, List.getD_cons_succ]
theorem setSh_twice : ∀ (ps : List Par) (k : Nat) (v u : Int), setSh (setSh ps k v) k u = setSh ps k u
  | [], _, _, _ => rfl
  | p :: r, 0, v, u => rfl
  | p :: r, k + 1, v, u => by simp [setSh, setSh_twice r k v u]
theorem setSh_self : ∀ (ps : List Par) (k : Nat) (hk : k < ps.length), setSh ps k ps[k].shares = ps
  | p :: r, 0, _ => rfl
  | p :: r, k + 1, h => by
    have := setSh_self r k (by simpa using h)
    simp only [setSh, List.getElem_cons_succ]
    rw [this]
theorem patn_set {ps : List Par} {k : Nat} {v : Int} (j : Nat) (hj : j < ps.length) : patn (setSh ps k v) j = ⟨ps[j].who, ps[j].mill, if j = k then v else ps[j].shares⟩ := by
  have hl : j < (setSh ps k v).length := by rw [setSh_length]; exact hj
  obtain ⟨e1, e2, e3⟩ := setSh_at ps k v j hl
  rw [patn_eq hj] at e1 e2 e3
  rw [patn_eq hl]
  cases h : (setSh ps k v)[j]
  rw [h] at e1 e2 e3
  simp only at e1 e2 e3
  rw [e1, e2, e3]
theorem pfind_set {ps : List Par} {k : Nat} {v : Int} (who mill : ByteArray) : pfindV (setSh ps k v) who mill = pfindV ps who mill := by
  unfold pfindV
  rw [setSh_length]
  refine findUp_congr fun j hj => ?_
  rw [patn_set j hj, patn_eq hj]; rfl
theorem parts_set {ps : List Par} (h : partsB ps = true) {k : Nat} {v : Int} (hv : inB 1 1000000000 v = true) : partsB (setSh ps k v) = true := by
  obtain ⟨h1, h2⟩ := parts_true h
  have at' : ∀ j (hj : j < (setSh ps k v).length), (setSh ps k v)[j] = ⟨(ps[j]'(by rw [setSh_length] at hj; exact hj)).who, (ps[j]'(by rw [setSh_length] at hj; exact hj)).mill, if j = k then v else (ps[j]'(by rw [setSh_length] at hj; exact hj)).shares⟩ := by
    intro j hj
    rw [← patn_eq hj, patn_set j (by rw [setSh_length] at hj; exact hj)]
  refine parts_yes (by rw [setSh_length]; exact h1) ⟨fun j hj _ => ?_, fun j hj _ => ?_⟩
  · have hj' : j < ps.length := by rw [setSh_length] at hj; exact hj
    have := h2.1 j hj' hj'
    rw [at' j hj]
    simp only [partB, Bool.and_eq_true] at this ⊢
    refine ⟨this.1, this.2.1, ?_⟩
    split
    · exact hv
    · exact this.2.2
  · have hj' : j + 1 < ps.length := by rw [setSh_length] at hj; exact hj
    rw [at' j (by omega), at' (j + 1) hj]
    exact h2.2 j hj' hj'

/-- What one adds to a mill. -/
def valM (mill : ByteArray) (p : Par) : Int := if (p.mill.toList == mill.toList) = true then p.shares else 0
theorem sumS_take {ps : List Par} {mill : ByteArray} : ∀ k, k ≤ ps.length → sumS ps mill k = ((ps.take k).map (valM mill)).sum
  | 0, _ => by simp [sumS]
  | k + 1, hk => by
    rw [sumS, sumS_take k (by omega), List.take_succ_eq_append_getElem (by omega), List.map_append, List.sum_append, patn_eq (by omega)]
    simp [valM]
theorem sumS_all (ps : List Par) (mill : ByteArray) : sumS ps mill ps.length = (ps.map (valM mill)).sum := by
  rw [sumS_take _ (Nat.le_refl _), List.take_length]

theorem sum_set {mill : ByteArray} : ∀ (ps : List Par) (k : Nat) (v : Int) (hk : k < ps.length), ps[k].mill.toList = mill.toList → ((setSh ps k v).map (valM mill)).sum = (ps.map (valM mill)).sum + (v - ps[k].shares)
  | p :: r, 0, v, _, e => by
    simp only [List.getElem_cons_zero] at e
    simp [setSh, valM, e]; omega
  | p :: r, k + 1, v, h, e => by
    have := sum_set r k v (by simpa using h) (by simpa using e)
    simp only [setSh, List.map_cons, List.sum_cons, this, List.getElem_cons_succ]; omega
theorem is_parts {p : Par} {who mill : ByteArray} (h : isB p who mill = true) : p.who.toList = who.toList ∧ p.mill.toList = mill.toList := by
  simpa [isB] using h
theorem sharesIn_eq {ps : List Par} (h : partsB ps = true) (mill : ByteArray) : sharesInV ps mill = (ps.map (valM mill)).sum := by
  rw [sharesInV, if_pos h, sumS_all]
theorem sharesOf_hit {ps : List Par} (h : partsB ps = true) {who mill : ByteArray} {k : Nat} (e : pfindV ps who mill = k) (hk : k < ps.length) : sharesOfV ps who mill = ps[k].shares := by
  rw [sharesOfV, if_pos h, if_pos (by omega), e]
  simp [patn_eq hk]
theorem sharesOf_none {ps : List Par} (h : partsB ps = true) {who mill : ByteArray} (e : pfindV ps who mill = -1) : sharesOfV ps who mill = 0 := by
  rw [sharesOfV, if_pos h, if_neg (by omega)]
theorem put_cut {ps : List Par} {k : Nat} (hk : k ≤ ps.length) (x : Par) : (ps.take k ++ [x] ++ ps.drop k).take k ++ (ps.take k ++ [x] ++ ps.drop k).drop (k + 1) = ps := by
  have h1 : (ps.take k).length = k := by simp; omega
  rw [List.append_assoc, List.take_left' h1, List.drop_append, h1, List.drop_eq_nil_of_le (by omega)]
  simp

/-- What one gave can be took again. -/
theorem gave_took {ps : List Par} {who mill : ByteArray} {n : Int} (h : gaveB ps who mill n = true) :
    partsB (gaveL ps who mill n) = true ∧ tookB (gaveL ps who mill n) who mill n = true ∧ tookL (gaveL ps who mill n) who mill n = ps ∧ sharesInV (gaveL ps who mill n) mill = sharesInV ps mill + n := by
  have h0 := h
  simp only [gaveB, Bool.and_eq_true] at h
  obtain ⟨hf, hn, hx⟩ := h
  have hL : gaveL ps who mill n = giveAt ps who mill n := by rw [gaveL, if_pos hf, if_pos h0]
  rw [hL]
  have hnb := inB_true hn
  refine ⟨hx, ?_⟩
  by_cases hp : 0 ≤ pfindV ps who mill
  · obtain ⟨k, e, hk, hq⟩ := pfind_hit hp
    have hg : giveAt ps who mill n = setSh ps k (ps[k].shares + n) := by rw [giveAt, if_pos hp, e]; simp [patn_eq hk]
    rw [hg] at hx ⊢
    have hs := part_bd1 ((parts_true hf).2.1 k hk hk)
    have hk' : k < (setSh ps k (ps[k].shares + n)).length := by rw [setSh_length]; exact hk
    have e' : pfindV (setSh ps k (ps[k].shares + n)) who mill = k := by rw [pfind_set]; exact e
    have hat : (setSh ps k (ps[k].shares + n))[k].shares = ps[k].shares + n := by
      rw [← patn_eq hk', patn_set k hk]; simp
    obtain ⟨t1, t2⟩ := took_yes hx e' hk' (n := n) (by rw [hat]; exact inB_of (by omega) (by omega))
    refine ⟨t1, ?_, ?_⟩
    · rw [t2, takeAt, patn_eq hk', hat, if_neg (by omega), setSh_twice, show ps[k].shares + n - n = ps[k].shares by omega, setSh_self ps k hk]
    · rw [sharesIn_eq hx, sharesIn_eq hf, sum_set ps k _ hk (is_parts hq).2]; omega
  · have hg : giveAt ps who mill n = ps.take (lowAt ps who mill) ++ [⟨who, mill, n⟩] ++ ps.drop (lowAt ps who mill) := by rw [giveAt, if_neg hp]
    rw [hg] at hx ⊢
    have hle := lowAt_le ps who mill
    generalize lowAt ps who mill = k at hx hle ⊢
    have hlen : (ps.take k ++ [(⟨who, mill, n⟩ : Par)] ++ ps.drop k).length = ps.length + 1 := by simp; omega
    have hk' : k < (ps.take k ++ [(⟨who, mill, n⟩ : Par)] ++ ps.drop k).length := by rw [hlen]; omega
    have hat : (ps.take k ++ [(⟨who, mill, n⟩ : Par)] ++ ps.drop k)[k] = ⟨who, mill, n⟩ := by
      rw [List.getElem_append_left (by simp; omega), List.getElem_append_right (by simp; omega)]
      simp
    have e' : pfindV (ps.take k ++ [(⟨who, mill, n⟩ : Par)] ++ ps.drop k) who mill = k := pfind_at (parts_pair.1 hx).2.2 hk' (by rw [hat]; simp [isB])
    obtain ⟨t1, t2⟩ := took_yes hx e' hk' (n := n) (by rw [hat]; exact inB_of (by omega) (by simp))
    refine ⟨t1, ?_, ?_⟩
    · rw [t2, takeAt, patn_eq hk', hat, if_pos (by simp), put_cut hle]
    · rw [sharesIn_eq hx, sharesIn_eq hf]
      conv => rhs; rw [← List.take_append_drop k ps]
      simp only [List.map_append, List.sum_append, List.map_cons, List.map_nil, List.sum_cons, List.sum_nil]
      simp [valM]; omega

/-- What is took is less, of that mill and of that one. -/
theorem took_less {ps : List Par} {who mill : ByteArray} {n : Int} (h : tookB ps who mill n = true) :
    partsB (tookL ps who mill n) = true ∧ sharesInV (tookL ps who mill n) mill = sharesInV ps mill - n ∧ sharesOfV (tookL ps who mill n) who mill = sharesOfV ps who mill - n := by
  simp only [tookB, Bool.and_eq_true, decide_eq_true_eq] at h
  obtain ⟨hf, hp, hn⟩ := h
  obtain ⟨k, e, hk, hq⟩ := pfind_hit hp
  rw [e, Int.toNat_natCast, patn_eq hk] at hn
  rw [(took_yes hf e hk hn).2]
  have hnb := inB_true hn
  have hs := part_bd1 ((parts_true hf).2.1 k hk hk)
  have hso := sharesOf_hit hf e hk
  obtain ⟨h20, hall, hpw⟩ := parts_pair.1 hf
  rw [takeAt, patn_eq hk]
  split
  · rename_i hz
    have hsub : (ps.take k ++ ps.drop (k + 1)).Sublist ps := by
      conv => rhs; rw [← List.take_append_drop k ps]
      exact (List.Sublist.refl _).append (List.drop_sublist_drop_left _ (by omega))
    have hy : partsB (ps.take k ++ ps.drop (k + 1)) = true := parts_pair.2 ⟨Nat.le_trans hsub.length_le h20, fun p hp => hall p (hsub.subset hp), hpw.sublist hsub⟩
    refine ⟨hy, ?_, ?_⟩
    · rw [sharesIn_eq hy, sharesIn_eq hf]
      have e2 : (ps.map (valM mill)).sum = ((ps.take k ++ ps.drop (k + 1)).map (valM mill)).sum + ps[k].shares := by
        conv => lhs; rw [← List.take_append_drop k ps, List.drop_eq_getElem_cons hk]
        simp only [List.map_append, List.sum_append, List.map_cons, List.sum_cons]
        have : valM mill ps[k] = ps[k].shares := by simp [valM, (is_parts hq).2]
        rw [this]; omega
      rw [e2]; omega
    · rw [hso, sharesOf_none hy (pfind_none fun p hp => ?_)]
      · omega
      · rw [List.pairwise_iff_getElem] at hpw
        rcases List.mem_append.1 hp with hp | hp
        · obtain ⟨j, hj, rfl⟩ := List.getElem_of_mem hp
          have hjk : j < k := by have := hj; simp at this; omega
          rw [List.getElem_take]
          cases e3 : isB ps[j] who mill
          · rfl
          · have := (hpw j k (by omega) hk hjk).ne e3
            rw [hq] at this; cases this
        · obtain ⟨j, hj, rfl⟩ := List.getElem_of_mem hp
          rw [List.getElem_drop]
          exact (hpw k (k + 1 + j) hk (by simp at hj; omega) (by omega)).ne hq
  · rename_i hz
    have hy : partsB (setSh ps k (ps[k].shares - n)) = true := parts_set hf (inB_of (by omega) (by omega))
    have hk' : k < (setSh ps k (ps[k].shares - n)).length := by rw [setSh_length]; exact hk
    refine ⟨hy, ?_, ?_⟩
    · rw [sharesIn_eq hy, sharesIn_eq hf, sum_set ps k _ hk (is_parts hq).2]; omega
    · rw [hso, sharesOf_hit hy (by rw [pfind_set]; exact e) hk', ← patn_eq hk', patn_set k hk]; simp

/-- Those of one are just that one's. -/
theorem for_one {ps : List Par} {who : ByteArray} {i : Nat} (hi : i < (partsForV ps who).length) : ((partsForV ps who)[i].who.toList == who.toList) = true ∧ sharesOfV ps who (partsForV ps who)[i].mill = (partsForV ps who)[i].shares := by
  cases hf : partsB ps
  · exfalso
    rw [show partsForV ps who = [] by simp [partsForV, hf]] at hi
    simp at hi
  · have hL : partsForV ps who = ofWho who ps := by simp [partsForV, hf]
    have hm := List.getElem_mem hi
    generalize (partsForV ps who)[i] = q at hm ⊢
    rw [hL, ofWho, List.mem_filter] at hm
    obtain ⟨hm, hw⟩ := hm
    refine ⟨hw, ?_⟩
    obtain ⟨k, hk, rfl⟩ := List.getElem_of_mem hm
    exact sharesOf_hit hf (pfind_at (parts_pair.1 hf).2.2 hk (by simp only [isB, hw, Bool.true_and]; simp)) hk

theorem gaveL_sized {ps : List Par} (hs : PSized ps) {who mill : ByteArray} (hw : who.size ≤ maxLen) (hm : mill.size ≤ maxLen) (n : Int) : PSized (gaveL ps who mill n) := by
  unfold gaveL
  split
  · split
    · unfold giveAt
      split
      · exact psized_set hs _ _
      · exact psized_put hs hw hm n _
    · exact hs
  · intro k hk; simp at hk
theorem tookL_sized {ps : List Par} (hs : PSized ps) (who mill : ByteArray) (n : Int) : PSized (tookL ps who mill n) := by
  unfold tookL
  split
  · split
    · unfold takeAt
      split
      · rw [psized_mem] at hs ⊢
        intro p hp
        rcases List.mem_append.1 hp with hp | hp
        · exact hs p (List.mem_of_mem_take hp)
        · exact hs p (List.mem_of_mem_drop hp)
      · exact psized_set hs _ _
    · exact hs
  · intro k hk; simp at hk
end Go.Proofs.YtjlilmcilojkbaaGreat
namespace Go.Proofs.YtjlilmcilojkbaaGreat
open Go.ChangeShapes Go.WideShapes Go.ChangeAt Go.RowKit
open Go.Shelf Go.Lib Go.Sort

theorem bytes_gt {a b : List UInt8} (h : ¬ a < b) (e : ¬ a = b) : b < a := by
  have : b ≤ a := List.not_lt.1 h
  rcases List.le_iff_lt_or_eq.1 this with h | h
  · exact h
  · exact absurd h.symm e
/-- Three ways. -/
def cmpS (a b : ByteArray) : Int := if Op.bytesLess a.toList b.toList = true then -1 else if Op.bytesLess b.toList a.toList = true then 1 else 0
theorem cmpS_lt {a b : ByteArray} (h : Op.bytesLess a.toList b.toList = true) : cmpS a b = -1 := by simp [cmpS, h]
theorem cmpS_gt {a b : ByteArray} (h : Op.bytesLess a.toList b.toList = false) (h' : Op.bytesLess b.toList a.toList = true) : cmpS a b = 1 := by simp [cmpS, h, h']
theorem cmpS_eq {a b : ByteArray} (h : Op.bytesLess a.toList b.toList = false) (h' : Op.bytesLess b.toList a.toList = false) : cmpS a b = 0 := by simp [cmpS, h, h']

theorem cmpS_same {a b : ByteArray} (h : (a.toList == b.toList) = true) : cmpS a b = 0 := by
  have e : a.toList = b.toList := by simpa using h
  apply cmpS_eq <;> rw [bytesLess_lt, decide_eq_false_iff_not, e] <;> exact List.lt_irrefl _
theorem cmpS_more {a b : ByteArray} (h : Op.bytesLess a.toList b.toList = false) (hn : (a.toList == b.toList) = false) : cmpS a b = 1 := by
  refine cmpS_gt h ?_
  have e : ¬ a.toList = b.toList := by simpa using hn
  rw [bytesLess_lt, decide_eq_false_iff_not] at h
  rw [bytesLess_lt, decide_eq_true_eq]
  exact bytes_gt h e

set_option maxHeartbeats 1000000 in
set_option maxRecDepth 100000 in
theorem iNaN_any (a : ByteArray) (w : World) : Calls Tryz.prog 125 #[.string a] w fun e w' => e = .returned (.bool false) ∧ w = w' := by
  go_enter Tryz.func125, Tryz.ntmps125
  go_wp2
  go_ret
  exact ⟨rfl, rfl⟩

set_option maxHeartbeats 1000000 in
set_option maxRecDepth 100000 in
theorem iCompare_any (a b : ByteArray) (w : World) :
    Calls Tryz.prog 114 #[.string a, .string b] w fun e w' => e = .returned (.int .i64 (cmpS a b)) ∧ w = w' := by
  cases h1 : Op.bytesLess a.toList b.toList
  · cases h2 : (a.toList == b.toList)
    · have HN := Lib.hid (cmpS_more h1 h2)
      go_enter Tryz.func114, Tryz.ntmps114
      go_wp2_with (go_at_call 125; refine (iNaN_any _ _).mono ?_; rintro e w' ⟨rfl, rfl⟩)
      go_ret
      exact ⟨by rw [HN.out]; rfl, rfl⟩
    · have HN := Lib.hid (cmpS_same h2)
      go_enter Tryz.func114, Tryz.ntmps114
      go_wp2_with (go_at_call 125; refine (iNaN_any _ _).mono ?_; rintro e w' ⟨rfl, rfl⟩)
      go_ret
      exact ⟨by rw [HN.out]; rfl, rfl⟩
  · have HN := Lib.hid (cmpS_lt h1)
    go_enter Tryz.func114, Tryz.ntmps114
    go_wp2_with (go_at_call 125; refine (iNaN_any _ _).mono ?_; rintro e w' ⟨rfl, rfl⟩)
    go_ret
    exact ⟨by rw [HN.out]; rfl, rfl⟩

/-- The first that is not 0. -/
def orI (x y : Int) : Int := if x = 0 then y else x
set_option maxHeartbeats 1000000 in
set_option maxRecDepth 100000 in
theorem iOr_any {w : World} {b : Nat} (x y : Int) (h0 : w.cell? ⟨b, 0, none⟩ = some (.int .i64 x)) (h1 : w.cell? ⟨b, 1, none⟩ = some (.int .i64 y)) :
    Calls Tryz.prog 113 #[.slice (some ⟨b, 0, none⟩) 2 2] w fun e w' => e = .returned (.int .i64 (orI x y)) ∧ w = w' := by
  go_enter Tryz.func113, Tryz.ntmps113
  go_wp2
  go_loop [8] (fun i => ∃ k : Nat, k ≤ 2 ∧ i = .int .i64 k ∧ (1 ≤ k → x = 0) ∧ (2 ≤ k → y = 0)) (fun i => 2 - (intOf i).toNat)
  case atStart => exact ⟨0, Nat.zero_le _, rfl, fun h => by omega, fun h => by omega⟩
  case round =>
    obtain ⟨k, hk, rfl, hx, hy⟩ := hrel
    match k, hk, hx, hy with
    | 0, _, _, _ =>
      by_cases hx : x = 0
      · subst hx
        go_wp2
        go_round
        case rel => exact ⟨1, by omega, by go_num, by simp, by simp⟩
        case measure => simp [intOf]
      · have HN := Lib.hid (show orI x y = x by simp [orI, hx])
        go_wp2
        go_ret
        exact ⟨by rw [HN.out]; rfl, rfl⟩
    | 1, _, hx, _ =>
      obtain rfl : x = 0 := hx (by omega)
      by_cases hy : y = 0
      · subst hy
        go_wp2
        go_round
        case rel => exact ⟨2, by omega, by go_num, by simp, by simp⟩
        case measure => simp [intOf]
      · have HN := Lib.hid (show orI 0 y = y by simp [orI])
        go_wp2
        go_ret
        exact ⟨by rw [HN.out]; rfl, rfl⟩
    | 2, _, hx, hy =>
      obtain rfl : x = 0 := hx (by omega)
      obtain rfl : y = 0 := hy (by omega)
      go_wp2
      go_ret
      exact ⟨rfl, rfl⟩

/-- By whose they are, then by the mill. -/
def cmpP (p q : Par) : Int := orI (cmpS p.who q.who) (cmpS p.mill q.mill)
end Go.Proofs.YtjlilmcilojkbaaGreat
namespace Go.Proofs.YtjlilmcilojkbaaGreat
open Go.ChangeShapes Go.WideShapes Go.ChangeAt Go.RowKit
open Go.Shelf Go.Lib Go.Sort

set_option maxHeartbeats 4000000 in
set_option maxRecDepth 100000 in
theorem iBy_any (p q : Par) (W : World) :
    Calls Tryz.prog 110 #[.agg #[.string p.who, .string p.mill, .int .i64 p.shares], .agg #[.string q.who, .string q.mill, .int .i64 q.shares]] W fun e w' => e = .returned (.int .i64 (cmpP p q)) ∧ ∃ n os, w' = grow (W.drewN n) os := by
  have HN : Hid (cmpP p q = orI (cmpS p.who q.who) (cmpS p.mill q.mill)) := rfl
  obtain ⟨x, HX⟩ : ∃ x, Hid (cmpS p.who q.who = x) := ⟨_, Lib.hid rfl⟩
  obtain ⟨y, HY⟩ : ∃ y, Hid (cmpS p.mill q.mill = y) := ⟨_, Lib.hid rfl⟩
  have hc1 : ∀ W', Calls Tryz.prog 114 #[.string p.who, .string q.who] W' fun e w' => e = .returned (.int .i64 x) ∧ w' = W' := fun W' => by rw [← HX.out]; exact (iCompare_any _ _ _).mono fun _ _ h => ⟨h.1, h.2.symm⟩
  have hc2 : ∀ W', Calls Tryz.prog 114 #[.string p.mill, .string q.mill] W' fun e w' => e = .returned (.int .i64 y) ∧ w' = W' := fun W' => by rw [← HY.out]; exact (iCompare_any _ _ _).mono fun _ _ h => ⟨h.1, h.2.symm⟩
  rw [HX.out, HY.out] at HN
  have HC1 := Lib.hid hc1
  have HC2 := Lib.hid hc2
  clear hc1 hc2 HX HY
  go_enter Tryz.func110, Tryz.ntmps110
  go_wp2_with fail
  obtain ⟨W2, hW2⟩ : ∃ W2, (W.alloc (.cells #[.string p.who, .string p.mill, .int .i64 p.shares] 75)).alloc (.cells #[.string q.who, .string q.mill, .int .i64 q.shares] 75) = W2 := ⟨_, rfl⟩
  have hp := (RecAt.new Par.cs W p 75).below (below_new _ (.cells #[.string q.who, .string q.mill, .int .i64 q.shares] 75))
  have hq := RecAt.new Par.cs (W.alloc (.cells #[.string p.who, .string p.mill, .int .i64 p.shares] 75)) q 75
  have hsz : (W.alloc (.cells #[.string p.who, .string p.mill, .int .i64 p.shares] 75)).heap.size = W.heap.size + 1 := by simp
  have c0 : W2.cell? ⟨W.heap.size, 0, none⟩ = some (.string p.who) := by rw [← hW2]; exact hp 0 _ rfl
  have c1 : W2.cell? ⟨W.heap.size, 1, none⟩ = some (.string p.mill) := by rw [← hW2]; exact hp 1 _ rfl
  have c2 : W2.cell? ⟨W.heap.size + 1, 0, none⟩ = some (.string q.who) := by rw [← hW2, ← hsz]; exact hq 0 _ rfl
  have c3 : W2.cell? ⟨W.heap.size + 1, 1, none⟩ = some (.string q.mill) := by rw [← hW2, ← hsz]; exact hq 1 _ rfl
  clear hp hq hsz
  have HE : Hid (∃ os, W2 = grow W os) := ⟨_, by rw [← hW2, alloc_eq_grow, alloc_eq_grow, grow_grow]⟩
  rw [hW2]
  clear hW2
  refine wp_region_still_tail 10 (by kernel_rfl) (by kernel_rfl) ?_
  simp only [List.take_succ_cons, List.take_zero, List.drop_succ_cons, List.drop_zero]
  change wpStill _ _ W2.drew _ _ _
  still_step
  still_step
  still_step
  still_step
  still_call (HC1.out _)
  still_step
  still_step
  still_step
  still_step
  still_call (HC2.out _)
  refine wpStill_nil ?_
  go_wp2_with (go_at_call 113; refine (iOr_any x y (by go_simp) (by go_simp)).mono ?_; rintro e w' ⟨rfl, rfl⟩)
  go_ret
  obtain ⟨os, hos⟩ := HE.out
  exact ⟨by rw [HN.out]; rfl, 1, _, by rw [hos, alloc_eq_grow]; exact grow_grow (W.drewN 1) os _⟩
end Go.Proofs.YtjlilmcilojkbaaGreat
namespace Go.Proofs.YtjlilmcilojkbaaGreat
open Go.ChangeShapes Go.WideShapes Go.ChangeAt Go.RowKit
open Go.Sort

section
variable {α : Type} [Inhabited α] {f : α → List Value} {c : Nat}
theorem flatK_at (hc : ∀ x, (f x).length = c) (xs : List α) (t : Nat) (ht : t < xs.length * c) : (xs.flatMap f)[t]? = some (flatK f c xs.toArray)[t]! := by
  have hc0 : 0 < c := by
    rcases Nat.eq_zero_or_pos c with e | e
    · subst e; simp at ht
    · exact e
  have hk : t / c < xs.length := Nat.div_lt_of_lt_mul (by rw [Nat.mul_comm]; exact ht)
  have hj : t % c < c := Nat.mod_lt _ hc0
  have e := flat_at hc xs (t / c) (t % c) hk hj
  rw [Nat.div_add_mod'] at e
  rw [e, get_flatK _ _ _ _ (by simpa using ht)]
  have h1 : xs.toArray[t / c]! = xs[t / c] := by simp [hk]
  rw [h1]
  have hl : t % c < (f xs[t / c]).length := by rw [hc]; exact hj
  rw [List.getElem?_eq_getElem hl]
  simp [hl]
theorem row_holds (hc : ∀ x, (f x).length = c) {W : World} {base g cap : Nat} {T : TypeId} {xs : List α} (ho : W.ownsRow base T c (.slice (some ⟨g, 0, none⟩) xs.length cap) xs.length (xs.flatMap f)) : HoldsK f c W g 0 xs.toArray := by
  rcases ho.2 with ⟨h0, -⟩ | ⟨g', cap', cur, hv, hg, hh, hle, hm, hs, ht⟩
  · simp at h0
  · injection hv with e1 e2 e3
    injection e1 with e1
    injection e1 with e1
    subst e1
    intro j hj
    have hj' : j < xs.length * c := by simpa using hj
    refine ⟨?_, by simp [World.frozen?, hh]⟩
    have h1 := flatK_at hc xs j hj'
    rw [← ht, List.getElem?_take_of_lt hj'] at h1
    simp only [World.cell?, hh, Nat.zero_add]
    simpa using h1
theorem sorted_block {W : World} {g n : Nat} {os : Array Obj} {cur : Array Value} {T : TypeId} {fr : Nat × Nat} (d : Array α) (hh : W.heap[g]? = some (.cells cur T fr)) :
    (sortWorldK f c W g 0 n d os).heap[g]? = some (.cells (putCells id 0 (flatK f c d) cur) T fr) := by
  have hg : g < W.heap.size := (Array.getElem?_eq_some_iff.1 hh).1
  unfold sortWorldK
  rw [heap_grow_old _ _ (by simpa [putRowK, putRow, mapBlock, Go.Sort.ahead] using hg)]
  simp [putRowK, putRow, mapBlock, Go.Sort.ahead, Array.getElem?_modify, hh, onCells]
theorem sorted_grown {W : World} {g n : Nat} {os : Array Obj} (d : Array α) : W.grownBy (sortWorldK f c W g 0 n d os) (some g) := by
  refine ⟨rfl, rfl, rfl, by simp [sortWorldK, putRowK, putRow, mapBlock, Go.Sort.ahead, Go.Sort.grow], fun k hk hne => ?_⟩
  have hgk : g ≠ k := fun e => hne (by rw [e])
  unfold sortWorldK
  rw [heap_grow_old _ _ (by simpa [putRowK, putRow, mapBlock, Go.Sort.ahead] using hk)]
  simp [putRowK, putRow, mapBlock, Go.Sort.ahead, Array.getElem?_modify, hgk]
theorem sorted_row (hc : ∀ x, (f x).length = c) {W : World} {base g cap n : Nat} {T : TypeId} {os : Array Obj} {xs ys : List α} (ho : W.ownsRow base T c (.slice (some ⟨g, 0, none⟩) xs.length cap) xs.length (xs.flatMap f)) (hl : ys.length = xs.length) :
    (sortWorldK f c W g 0 n ys.toArray os).ownsRow base T c (.slice (some ⟨g, 0, none⟩) ys.length cap) ys.length (ys.flatMap f) := by
  rcases ho.2 with ⟨h0, -⟩ | ⟨g', cap', cur, hv, hg, hh, hle, hm, hs, ht⟩
  · simp at h0
  · injection hv with e1 e2 e3
    injection e1 with e1
    injection e1 with e1
    subst e1; subst e3
    have hcs : xs.length * c ≤ cur.size := by
      have := congrArg List.length ht
      rw [List.length_take, flat_length hc] at this
      simp at this; omega
    refine ⟨by rw [flat_length hc], .inr ⟨g, cap, _, rfl, hg, sorted_block _ hh, by omega, hm, by simpa [putCells] using hs, ?_⟩⟩
    apply List.ext_getElem?
    intro j
    by_cases hj : j < ys.length * c
    · rw [List.getElem?_take_of_lt hj, Array.getElem?_toList, flatK_at hc ys j hj]
      have h2 : j < cur.size := by rw [hl] at hj; omega
      simp only [putCells, Array.getElem?_mapIdx, Array.getElem?_eq_getElem h2, Option.map_some]
      rw [if_pos ⟨Nat.zero_le _, by rw [size_flatK]; simpa using hj⟩]
      rfl
    · rw [List.getElem?_take_eq_none (by omega), List.getElem?_eq_none (by rw [flat_length hc]; omega)]
end
end Go.Proofs.YtjlilmcilojkbaaGreat
namespace Go.Proofs.YtjlilmcilojkbaaGreat
open Go.ChangeShapes Go.WideShapes Go.ChangeAt Go.RowKit
open Go.Maps (Keyed KeysOf)
open Go.WideElems (Fit rd rg rd_key rd_val rg_of)
open Go.ChangeMaps (setBlock heap_setBlock_same heap_setBlock_other putKey delKey notKey eq_of_perm_sorted)

section
variable {α : Type} {P : Program} {k : TypeId} {R : Value → Option (DataW Unit × List MemPlace)} {kl : α → Lit} {vd : α → DataW Unit}

/-- The entries of these. -/
def entsOf (kl : α → Lit) (vd : α → DataW Unit) (xs : List α) : List (Lit × DataW Unit) := xs.map fun x => (kl x, vd x)
/-- What a map of these reads as. -/
def datOf (kl : α → Lit) (vd : α → DataW Unit) (xs : List α) : DataW Unit := .map ((entsOf kl vd xs).foldr DataW.insert [])
/-- No key twice. -/
def Apart (kl : α → Lit) (xs : List α) : Prop := xs.Pairwise fun x y => kl x ≠ kl y
/-- Block b is a map that holds these. -/
structure MapIs (P : Program) (k : TypeId) (R : Value → Option (DataW Unit × List MemPlace)) (kl : α → Lit) (vd : α → DataW Unit) (w : World) (b : Nat) (xs : List α) : Prop where
  apart : Apart kl xs
  keys : ∀ x ∈ xs, KeysOf P k (kl x)
  own : w.ownsMap P k R b xs.length (datOf kl vd xs)
/-- All but those under that key. -/
def without (kl : α → Lit) (l : Lit) (xs : List α) : List α := xs.filter fun y => !(kl y).sameKey l
/-- The one under that key. -/
def under (kl : α → Lit) (l : Lit) (xs : List α) : Option α := xs.find? fun y => (kl y).sameKey l

theorem same_iff (K : Keyed P k) {a b : Lit} (ha : KeysOf P k a) : a.sameKey b = true ↔ a = b :=
  ⟨WideAt.sameKey_eq, fun e => by obtain ⟨v, hv⟩ := ha; rw [← e]; exact WideAt.sameKey_self (K.key hv)⟩
theorem without_sub (l : Lit) (xs : List α) : (without kl l xs).Sublist xs := List.filter_sublist
theorem mem_without (K : Keyed P k) {l : Lit} {xs : List α} (hk : ∀ x ∈ xs, KeysOf P k (kl x)) {x : α} : x ∈ without kl l xs ↔ x ∈ xs ∧ kl x ≠ l := by
  unfold without
  rw [List.mem_filter]
  constructor
  · rintro ⟨h1, h2⟩
    refine ⟨h1, fun e => ?_⟩
    rw [(same_iff K (hk x h1)).2 e] at h2; cases h2
  · rintro ⟨h1, h2⟩
    refine ⟨h1, ?_⟩
    cases h : (kl x).sameKey l
    · rfl
    · exact absurd (WideAt.sameKey_eq h) h2
theorem without_none (K : Keyed P k) {l : Lit} {xs : List α} (hk : ∀ x ∈ xs, KeysOf P k (kl x)) (h : ∀ x ∈ xs, kl x ≠ l) : without kl l xs = xs := by
  unfold without
  rw [List.filter_eq_self]
  intro x hx
  exact (List.mem_filter.1 ((mem_without K hk).2 ⟨hx, h x hx⟩)).2
/-- One of them stands for all that it parts from. -/
theorem without_perm (K : Keyed P k) : ∀ {xs : List α}, Apart kl xs → (∀ x ∈ xs, KeysOf P k (kl x)) → ∀ {x : α}, x ∈ xs → xs.Perm (x :: without kl (kl x) xs)
  | [], _, _, x, hx => by cases hx
  | y :: r, ha, hk, x, hx => by
    obtain ⟨h1, h2⟩ := List.pairwise_cons.1 ha
    have hkr : ∀ z ∈ r, KeysOf P k (kl z) := fun z hz => hk z (by simp [hz])
    rcases List.mem_cons.1 hx with rfl | hx
    · have e : without kl (kl x) (x :: r) = r := by
        rw [show without kl (kl x) (x :: r) = without kl (kl x) r by unfold without; rw [List.filter_cons, if_neg (by rw [(same_iff K (hk x (by simp))).2 rfl]; decide)]]
        exact without_none K hkr (fun z hz e => h1 z hz e.symm)
      rw [e]
    · have hne : kl y ≠ kl x := h1 x hx
      have e : without kl (kl x) (y :: r) = y :: without kl (kl x) r := by
        unfold without
        rw [List.filter_cons, if_pos]
        cases h : (kl y).sameKey (kl x)
        · rfl
        · exact absurd (WideAt.sameKey_eq h) hne
      rw [e]
      exact ((without_perm K h2 hkr hx).cons y).trans (List.Perm.swap _ _ _)
theorem Apart.sub {xs ys : List α} (h : Apart kl xs) (hs : ys.Sublist xs) : Apart kl ys := List.Pairwise.sublist hs h
theorem Apart.perm {xs ys : List α} (h : Apart kl xs) (hp : xs.Perm ys) : Apart kl ys := (hp.pairwise_iff (fun {a b} (h : kl a ≠ kl b) => h.symm)).1 h

theorem apart_one : ∀ {xs : List α}, Apart kl xs → ∀ {x y : α}, x ∈ xs → y ∈ xs → kl x = kl y → x = y
  | [], _, x, _, hx, _, _ => by cases hx
  | z :: r, h, x, y, hx, hy, e => by
    obtain ⟨h1, h2⟩ := List.pairwise_cons.1 h
    rcases List.mem_cons.1 hx with rfl | hx'
    · rcases List.mem_cons.1 hy with rfl | hy'
      · rfl
      · exact absurd e (h1 y hy')
    · rcases List.mem_cons.1 hy with rfl | hy'
      · exact absurd e.symm (h1 x hx')
      · exact apart_one h2 hx' hy' e

theorem ents_apart {xs : List α} (h : Apart kl xs) : (entsOf kl vd xs).Pairwise (fun p q => p.1 ≠ q.1) := by
  unfold entsOf
  rw [List.pairwise_map]
  exact h
theorem ents_keys {xs : List α} (h : ∀ x ∈ xs, KeysOf P k (kl x)) : Maps.Keys (KeysOf P k) (entsOf kl vd xs) := by
  intro p hp
  obtain ⟨x, hx, rfl⟩ := List.mem_map.1 hp
  exact h x hx
theorem datOf_perm (K : Keyed P k) {xs ys : List α} (ha : Apart kl xs) (hk : ∀ x ∈ xs, KeysOf P k (kl x)) (hp : xs.Perm ys) : datOf kl vd xs = datOf kl vd ys := by
  have hpe : (entsOf kl vd xs).Perm (entsOf kl vd ys) := hp.map _
  unfold datOf
  rw [eq_of_perm_sorted ((sorted_perm _).trans (hpe.trans (sorted_perm _).symm)) (Maps.sorted_sorted K.one _ (ents_keys hk) (ents_apart ha)) (Maps.sorted_sorted K.one _ (ents_keys fun x hx => hk x (hp.mem_iff.2 hx)) (ents_apart (ha.perm hp)))]
theorem datOf_put (K : Keyed P k) {xs : List α} (ha : Apart kl xs) (hk : ∀ x ∈ xs, KeysOf P k (kl x)) {x : α} (hx : KeysOf P k (kl x)) : (datOf kl vd xs).put (kl x) (vd x) = datOf kl vd (x :: without kl (kl x) xs) := by
  unfold datOf
  rw [DataW.put_eq, Maps.sorted_put K.one (E' := entsOf kl vd (x :: without kl (kl x) xs)) hx (ents_keys hk) (ents_apart ha)]
  unfold entsOf without
  rw [List.filter_map]
  exact List.Perm.refl _
theorem datOf_del (K : Keyed P k) {xs : List α} (ha : Apart kl xs) (hk : ∀ x ∈ xs, KeysOf P k (kl x)) (l : Lit) : (datOf kl vd xs).del l = datOf kl vd (without kl l xs) := by
  unfold datOf
  rw [DataW.del_eq, Maps.sorted_del K.one (E' := entsOf kl vd (without kl l xs)) (ents_keys hk) (ents_apart ha)]
  unfold entsOf without
  rw [List.filter_map]
  exact List.Perm.refl _
theorem datOf_at {xs : List α} (ha : Apart kl xs) (l : Lit) (zd : DataW Unit) : (datOf kl vd xs).atKey l zd = ((under kl l xs).map vd).getD zd := by
  have hmem : ∀ {q : Lit × DataW Unit}, q ∈ (entsOf kl vd xs).foldr DataW.insert [] ↔ ∃ x ∈ xs, (kl x, vd x) = q := fun {q} => by rw [mem_sorted]; unfold entsOf; rw [List.mem_map]
  unfold datOf DataW.atKey under
  cases h1 : xs.find? fun y => (kl y).sameKey l with
  | none =>
    have h2 : ((entsOf kl vd xs).foldr DataW.insert []).find? (fun p => p.1.sameKey l) = none := by
      rw [List.find?_eq_none] at h1 ⊢
      intro q hq
      obtain ⟨x, hx, rfl⟩ := hmem.1 hq
      exact h1 x hx
    simp only [h2]; rfl
  | some y =>
    have hy : y ∈ xs := List.mem_of_find?_eq_some h1
    have hs : (kl y).sameKey l = true := List.find?_some (p := fun y => (kl y).sameKey l) h1
    cases h2 : ((entsOf kl vd xs).foldr DataW.insert []).find? (fun p => p.1.sameKey l) with
    | none =>
      rw [List.find?_eq_none] at h2
      exact absurd hs (h2 (kl y, vd y) (hmem.2 ⟨y, hy, rfl⟩))
    | some q =>
      obtain ⟨x, hx, rfl⟩ := hmem.1 (List.mem_of_find?_eq_some h2)
      have hq := List.find?_some h2
      have e : kl x = kl y := (WideAt.sameKey_eq (by simpa using hq)).trans (WideAt.sameKey_eq hs).symm
      have : x = y := apart_one ha hx hy e
      subst this
      simp only [h2]; rfl
theorem size_datOf (xs : List α) : Maps.size (datOf kl vd xs) = xs.length := by simp [Maps.size, datOf, length_sorted, entsOf]
theorem has_datOf (K : Keyed P k) {xs : List α} (hk : ∀ x ∈ xs, KeysOf P k (kl x)) {x : α} (hx : x ∈ xs) : Maps.has (datOf kl vd xs) (kl x) = true :=
  List.any_eq_true.2 ⟨(kl x, vd x), mem_sorted.2 (List.mem_map.2 ⟨x, hx, rfl⟩), (same_iff K (hk x hx)).2 rfl⟩

variable {w : World} {b : Nat} {xs : List α}
theorem MapIs.lt (h : MapIs P k R kl vd w b xs) : b < w.heap.size := h.own.lt
theorem MapIs.made (w : World) : MapIs P k R kl vd (w.alloc (.map #[] 0)) w.heap.size [] :=
  ⟨List.Pairwise.nil, by simp, World.ownsMap_made w P k R⟩
theorem MapIs.perm (K : Keyed P k) {ys : List α} (h : MapIs P k R kl vd w b xs) (hp : xs.Perm ys) : MapIs P k R kl vd w b ys :=
  ⟨h.apart.perm hp, fun x hx => h.keys x (hp.mem_iff.2 hx), by rw [← datOf_perm K h.apart h.keys hp, ← hp.length_eq]; exact h.own⟩
theorem MapIs.block {w' : World} (h : MapIs P k R kl vd w b xs) (hb : w'.heap[b]? = w.heap[b]?) : MapIs P k R kl vd w' b xs := by
  refine ⟨h.apart, h.keys, ?_⟩
  obtain ⟨es, clock, h1, h2⟩ := h.own
  exact ⟨es, clock, hb.trans h1, h2⟩
theorem MapIs.below {w' : World} {B : Nat} (h : MapIs P k R kl vd w b xs) (hb : Below B w w') (hlt : b < B) : MapIs P k R kl vd w' b xs := h.block (hb.block b hlt)
theorem MapIs.grown {w' : World} {row : Option Nat} (h : MapIs P k R kl vd w b xs) (hg : w.grownBy w' row) (hne : some b ≠ row) : MapIs P k R kl vd w' b xs := h.block (hg.block b h.lt hne)
/-- So many as they are. -/
theorem owns_exact {n : Nat} (h : w.ownsMap P k R b n (datOf kl vd xs)) : w.ownsMap P k R b xs.length (datOf kl vd xs) := by
  obtain ⟨es, clock, h1, h2, h3, h4⟩ := h
  refine ⟨es, clock, h1, h2, ?_, h4⟩
  have := congrArg Maps.size h4
  rw [size_datOf] at this
  simp [Maps.size, length_sorted] at this
  omega

variable {t e : TypeId}
/-- m[k] = v -/
theorem MapIs.store (K : Keyed P k) (ht : P.underlying t = some (.map k e)) (h : MapIs P k R kl vd w b xs) (hn : xs.length < maxLen) {x : α} {key val : Value} {ps : List MemPlace} (hkey : keyOf P k key = some (kl x)) (hv : R val = some (vd x, ps)) :
    ∃ w', (Instr.mapUpdate t (.map (some b)) key val).run P w = .ok () w' ∧ MapIs P k R kl vd w' b (x :: without kl (kl x) xs) ∧ w.mapTurned w' b := by
  obtain ⟨w', hr, ho, ht'⟩ := h.own.store K ht hn hkey hv
  refine ⟨w', hr, ⟨?_, ?_, ?_⟩, ht'⟩
  · exact List.pairwise_cons.2 ⟨fun y hy => (((mem_without K h.keys).1 hy).2).symm, h.apart.sub (without_sub _ _)⟩
  · intro y hy
    rcases List.mem_cons.1 hy with rfl | hy
    · exact ⟨_, hkey⟩
    · exact h.keys y ((without_sub _ _).subset hy)
  · rw [datOf_put K h.apart h.keys ⟨_, hkey⟩] at ho
    exact owns_exact ho
/-- delete(m, k) -/
theorem MapIs.drop (K : Keyed P k) (ht : P.underlying t = some (.map k e)) (h : MapIs P k R kl vd w b xs) {l : Lit} {key : Value} (hkey : keyOf P k key = some l) (ty : TypeId) :
    ∃ w', (Builtin.delete_ #[t, k] ty #[.map (some b), key]).run P w = .ok (.tuple #[]) w' ∧ MapIs P k R kl vd w' b (without kl l xs) ∧ w.mapTurned w' b := by
  obtain ⟨w', hr, ho, ht'⟩ := h.own.drop K ht hkey ty
  refine ⟨w', hr, ⟨h.apart.sub (without_sub _ _), fun y hy => h.keys y ((without_sub _ _).subset hy), ?_⟩, ht'⟩
  rw [datOf_del K h.apart h.keys] at ho
  exact owns_exact ho
/-- m[k] -/
theorem MapIs.look (K : Keyed P k) (ht : P.underlying t = some (.map k e)) (h : MapIs P k R kl vd w b xs) {z : Value} (hz : (zeroValue e).run P w = .ok z w) {zd : DataW Unit} {zp : List MemPlace} (hzd : R z = some (zd, zp)) {l : Lit} {key : Value} (hkey : keyOf P k key = some l) :
    ∃ v ps, (Instr.lookup t (.map (some b)) key false).run P w = .ok v w ∧ R v = some (((under kl l xs).map vd).getD zd, ps) := by
  obtain ⟨v, ps, hr, hv⟩ := h.own.lookup K ht hz hzd hkey
  rw [datOf_at h.apart] at hv
  exact ⟨v, ps, hr, hv⟩
/-- len(m) -/
theorem MapIs.len (ht : P.underlying t = some (.map k e)) (h : MapIs P k R kl vd w b xs) (ty : TypeId) : (Builtin.len_ #[t] ty #[.map (some b)]).run P w = .ok (.int .i64 xs.length) w := by
  rw [h.own.len ht ty, size_datOf]
/-- clear(m) -/
theorem MapIs.clear (ht : P.underlying t = some (.map k e)) (h : MapIs P k R kl vd w b xs) (ty : TypeId) :
    ∃ w', (Builtin.clear_ #[t] ty #[.map (some b)]).run P w = .ok (.tuple #[]) w' ∧ MapIs P k R kl vd w' b [] ∧ w.mapTurned w' b := by
  obtain ⟨es, clock, hb, F, -⟩ := h.own
  refine ⟨setBlock w b (.map #[] clock), ?_, ⟨List.Pairwise.nil, by simp, ⟨#[], clock, heap_setBlock_same hb _, ⟨by simp, ?_, by simp⟩, Nat.le_refl _, rfl⟩⟩, ⟨es, clock, #[], clock, hb, rfl⟩⟩
  · simp [Builtin.clear_, run_underlying ht, MapKept.run_getObj_map hb, MapKept.run_setObj_map _ hb, Result.andThen, setBlock]
  · exact MapKept.stamped_empty _

/-- A range over it is under way: these are still to come. -/
structure RangeIs (P : Program) (k : TypeId) (R : Value → Option (DataW Unit × List MemPlace)) (kl : α → Lit) (vd : α → DataW Unit) (w : World) (b r : Nat) (xs todo : List α) : Prop where
  apart : Apart kl xs
  keys : ∀ x ∈ xs, KeysOf P k (kl x)
  under : ∃ left cnt, w.ranges P k R b r xs.length (datOf kl vd xs) left cnt ∧ todo = xs.filter fun x => left (kl x)
variable {r : Nat} {todo : List α}
theorem RangeIs.map (h : RangeIs P k R kl vd w b r xs todo) : MapIs P k R kl vd w b xs := by
  obtain ⟨left, cnt, hr, -⟩ := h.under
  exact ⟨h.apart, h.keys, hr.owns⟩
theorem RangeIs.ne (h : RangeIs P k R kl vd w b r xs todo) : r ≠ b := by
  obtain ⟨left, cnt, hr, -⟩ := h.under
  exact hr.ne
theorem RangeIs.lt (h : RangeIs P k R kl vd w b r xs todo) : r < w.heap.size := by
  obtain ⟨left, cnt, hr, -⟩ := h.under
  exact hr.lt
theorem RangeIs.sub (h : RangeIs P k R kl vd w b r xs todo) : todo.Sublist xs := by
  obtain ⟨left, cnt, -, e⟩ := h.under
  rw [e]; exact List.filter_sublist
/-- One that has come, and those that are still to come. -/
theorem RangeIs.part (K : Keyed P k) (h : RangeIs P k R kl vd w b r xs todo) {x : α} (hx : x ∈ todo) : todo.Perm (x :: without kl (kl x) todo) :=
  without_perm K (h.apart.sub h.sub) (fun y hy => h.keys y (h.sub.subset hy)) hx
theorem RangeIs.kept {w' : World} {row : Option Nat} (h : RangeIs P k R kl vd w b r xs todo) (hg : w.grownBy w' row) (hb' : some b ≠ row) (hr' : some r ≠ row) : RangeIs P k R kl vd w' b r xs todo := by
  obtain ⟨left, cnt, hr, e⟩ := h.under
  exact ⟨h.apart, h.keys, left, cnt, hr.kept hg hb' hr', e⟩
theorem RangeIs.left_kept {w' : World} {row : Option Nat} (h : RangeIs P k R kl vd w b r xs todo) (hg : w.grownBy w' row) (hb' : some b ≠ row) (hr' : some r ≠ row) : w'.rangeLeft b r = w.rangeLeft b r := by
  obtain ⟨left, cnt, hr, -⟩ := h.under
  rw [hr.left_eq, (hr.kept hg hb' hr').left_eq]
/-- range m -/
theorem MapIs.range (K : Keyed P k) (ht : P.underlying t = some (.map k e)) (h : MapIs P k R kl vd w b xs) :
    ∃ w', (Instr.range t (.map (some b))).run P w = .ok (.pointer (some ⟨w.heap.size, 0, none⟩)) w' ∧ RangeIs P k R kl vd w' b w.heap.size xs xs ∧ w.grownBy w' none ∧ w'.heap.size = w.heap.size + 1 := by
  obtain ⟨w', hr, hg, h1, h2⟩ := h.own.range K ht
  refine ⟨w', hr, ⟨h.apart, h.keys, _, _, hg, ?_⟩, h1, h2⟩
  exact (List.filter_eq_self.2 fun x hx => has_datOf K h.keys hx).symm
theorem filter_without (left : Lit → Bool) (l : Lit) (xs : List α) : xs.filter (fun x => left (kl x) && !(kl x).sameKey l) = without kl l (xs.filter fun x => left (kl x)) := by
  unfold without
  rw [List.filter_filter]
  congr 1
  funext x
  exact Bool.and_comm _ _
/-- The next one. -/
theorem RangeIs.next (K : Keyed P k) (h : RangeIs P k R kl vd w b r xs todo) (ty : TypeId) :
    (todo = [] ∧ (Instr.next (.pointer (some ⟨r, 0, none⟩)) false ty).run P w = .ok (.tuple #[.bool false]) w) ∨
    ∃ x key v ps w', x ∈ todo ∧ x ∈ xs ∧ keyOf P k key = some (kl x) ∧ R v = some (vd x, ps) ∧ (Instr.next (.pointer (some ⟨r, 0, none⟩)) false ty).run P w = .ok (.tuple #[.bool true, key, v]) w' ∧
      RangeIs P k R kl vd w' b r xs (without kl (kl x) todo) ∧ w'.rangeLeft b r < w.rangeLeft b r ∧ w.grownBy w' (some r) ∧ w'.heap.size = w.heap.size ∧ (Instr.entry (.pointer (some ⟨r, 0, none⟩))).run P w' = .ok (.tuple #[key, v]) w' := by
  obtain ⟨left, cnt, hr, et⟩ := h.under
  rcases hr.next K ty with ⟨-, hl, hrun⟩ | ⟨key, v, l, y, w', cnt', hkey, hlk, hv, hat, hrun, hr', hlt, hg, hs, hen⟩
  · refine .inl ⟨?_, hrun⟩
    rw [et, List.filter_eq_nil_iff]
    intro x _
    rw [hl]; decide
  · obtain ⟨x, hx, rfl⟩ : ∃ x ∈ xs, kl x = l := by
      obtain ⟨es, clock, since, seen, c0, -, F, -, hD, -, -, -, -, hl2, -⟩ := hr
      obtain ⟨z, hz, ez⟩ := hl2 l hlk
      have hm : rg P k R z ∈ (es.toList.map (rg P k R)).foldr DataW.insert [] := mem_sorted.2 (List.mem_map.2 ⟨z, hz, rfl⟩)
      have hD' : (es.toList.map (rg P k R)).foldr DataW.insert [] = (entsOf kl vd xs).foldr DataW.insert [] := by unfold datOf at hD; injection hD with hD; exact hD.symm
      rw [hD', mem_sorted] at hm
      obtain ⟨x, hx, ex⟩ := List.mem_map.1 hm
      exact ⟨x, hx, by rw [← ez, ← ex]⟩
    have hy : y.1 = vd x := by
      have := hat .nil
      rw [datOf_at h.apart] at this
      have hu : Go.Proofs.YtjlilmcilojkbaaGreat.under kl (kl x) xs = some x := by
        unfold Go.Proofs.YtjlilmcilojkbaaGreat.under
        cases hf : xs.find? fun y => (kl y).sameKey (kl x) with
        | none => rw [List.find?_eq_none] at hf; exact absurd ((same_iff K (h.keys x hx)).2 rfl) (hf x hx)
        | some z => rw [apart_one h.apart (List.mem_of_find?_eq_some hf) hx (WideAt.sameKey_eq (List.find?_some (p := fun y => (kl y).sameKey (kl x)) hf))]
      rw [hu] at this
      exact this.symm
    obtain ⟨yd, yp⟩ := y
    simp only at hy
    subst hy
    refine .inr ⟨x, key, v, yp, w', ?_, hx, hkey, hv, hrun, ⟨h.apart, h.keys, _, cnt', hr', ?_⟩, ?_, hg, hs, hen⟩
    · rw [et]; exact List.mem_filter.2 ⟨hx, hlk⟩
    · rw [et]; exact (filter_without left (kl x) xs).symm
    · rw [hr'.left_eq, hr.left_eq]; exact hlt
/-- delete(m, k), in the round. -/
theorem RangeIs.drop (K : Keyed P k) (ht : P.underlying t = some (.map k e)) (h : RangeIs P k R kl vd w b r xs todo) {l : Lit} {key : Value} (hkey : keyOf P k key = some l) (ty : TypeId) :
    ∃ w', (Builtin.delete_ #[t, k] ty #[.map (some b), key]).run P w = .ok (.tuple #[]) w' ∧ RangeIs P k R kl vd w' b r (without kl l xs) (without kl l todo) ∧ w'.rangeLeft b r ≤ w.rangeLeft b r ∧ w.mapTurned w' b := by
  obtain ⟨left, cnt, hr, et⟩ := h.under
  obtain ⟨w', cnt', hrun, hr', hle, htn⟩ := hr.drop K ht hkey ty
  refine ⟨w', hrun, ⟨h.apart.sub (without_sub _ _), fun y hy => h.keys y ((without_sub _ _).subset hy), (fun z => left z && !z.sameKey l), cnt', ?_, ?_⟩, ?_, htn⟩
  · rw [datOf_del K h.apart h.keys] at hr'
    obtain ⟨es, clock, since, seen, c0, h1, h2, h3, h4, h5⟩ := hr'
    refine ⟨es, clock, since, seen, c0, h1, h2, ?_, h4, h5⟩
    have := congrArg Maps.size h4
    rw [size_datOf] at this
    simp [Maps.size, length_sorted] at this
    omega
  · rw [filter_without, et]
    unfold without
    rw [List.filter_filter, List.filter_filter, List.filter_filter]
    congr 1
    funext x
    cases left (kl x) <;> cases (kl x).sameKey l <;> rfl
  · rw [hr'.left_eq, hr.left_eq]; exact hle
end
end Go.Proofs.YtjlilmcilojkbaaGreat
namespace Go.Proofs.YtjlilmcilojkbaaGreat
open Go.ChangeShapes Go.WideShapes Go.ChangeAt Go.RowKit
open Go.Maps (Keyed KeysOf)

theorem laidMap : laidOutB Tryz.prog = true := by kernel_rfl

theorem keyK : Keyed Tryz.prog 131 := Keyed.of_law (deep_law_laid laidMap (m := 2) (by omega) (of_decide_eq_true (by kernel_rfl)) (by kernel_rfl) (by kernel_rfl))

theorem keyCells : Tryz.prog.cellsOf 131 = 2 := by kernel_rfl

theorem keyType5 : Tryz.prog.keyType 131 = true := by kernel_rfl

theorem keyCells9 : Tryz.prog.cellsOf 9 = 1 := by kernel_rfl

/-- The key as a value. -/
abbrev keyV (who mill : ByteArray) : Value := .agg #[.string who, .string mill]

noncomputable def keyAt (who mill : ByteArray) : Lit := (keyOf Tryz.prog 131 (keyV who mill)).getD (.bool false)
noncomputable def keyL (p : Par) : Lit := keyAt p.who p.mill

theorem keyLits_pair (n : Nat) {who mill : ByteArray} (h1 : who.size ≤ maxLen) (h2 : mill.size ≤ maxLen) : Tryz.prog.keyLits (n + 2) 131 [.string who, .string mill] = some [.string who.data.toList, .string mill.data.toList] := by
  simp [Program.keyLits, Tryz.underlying131, Tryz.underlying9, keyCells, keyCells9, h1, h2]

theorem keyOf_pair {who mill : ByteArray} (h1 : who.size ≤ maxLen) (h2 : mill.size ≤ maxLen) : keyOf Tryz.prog 131 (keyV who mill) = some (keyAt who mill) := by
  have : keyOf Tryz.prog 131 (keyV who mill) = some (.string (keyBytes [.string who.data.toList, .string mill.data.toList])) := by
    have hk : Tryz.prog.keyLits (Tryz.prog.types.size + 1) 131 [.string who, .string mill] = some [.string who.data.toList, .string mill.data.toList] := by
      obtain ⟨n, hn⟩ : ∃ n, Tryz.prog.types.size + 1 = n + 2 := ⟨Tryz.prog.types.size - 1, by have : 0 < Tryz.prog.types.size := of_decide_eq_true (by kernel_rfl); omega⟩
      rw [hn]; exact keyLits_pair n h1 h2
    unfold keyOf
    rw [Tryz.underlying131]
    simp only [keyType5, Value.formed, Tryz.underlying131, Value.cells, keyCells]
    rw [hk]
    rfl
  unfold keyAt
  rw [this]; rfl
theorem keyOf_par {p : Par} (h : p.who.size ≤ maxLen ∧ p.mill.size ≤ maxLen) : keyOf Tryz.prog 131 (keyV p.who p.mill) = some (keyL p) := keyOf_pair h.1 h.2
theorem keyAt_inj {a b c d : ByteArray} (h1 : a.size ≤ maxLen) (h2 : b.size ≤ maxLen) (h3 : c.size ≤ maxLen) (h4 : d.size ≤ maxLen) (h : keyAt a b = keyAt c d) : a = c ∧ b = d := by
  have := keyK.inj (keyOf_pair h1 h2) ((keyOf_pair h3 h4).trans (congrArg some h.symm))
  injection this with this
  injection this with this
  injection this with e1 this
  injection this with e2 _
  injection e1 with e1
  injection e2 with e2
  exact ⟨e1, e2⟩

/-- The shares as an element, whatever they are. -/
def sharesR (v : Value) : Option (DataW Unit × List MemPlace) :=
  match v with
  | .int .i64 n => some (.lit (.int .i64 n), [])
  | _ => none
def sharesD (p : Par) : DataW Unit := .lit (.int .i64 p.shares)
theorem sharesR_inv {v : Value} {n : Int} {ps : List MemPlace} (h : sharesR v = some (.lit (.int .i64 n), ps)) : v = .int .i64 n := by
  unfold sharesR at h
  split at h
  · injection h with h; injection h with h; injection h with h; injection h with _ h; rw [h]
  · cases h

/-- Block b is a map of these parts. -/
abbrev Holds5 (w : World) (b : Nat) (ps : List Par) : Prop := MapIs Tryz.prog 131 sharesR keyL sharesD w b ps
abbrev Ranges5 (w : World) (b r : Nat) (ps todo : List Par) : Prop := RangeIs Tryz.prog 131 sharesR keyL sharesD w b r ps todo
end Go.Proofs.YtjlilmcilojkbaaGreat
