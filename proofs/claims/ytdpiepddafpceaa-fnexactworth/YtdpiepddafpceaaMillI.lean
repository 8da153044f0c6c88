/-
  What chapter 4's functions answer, the program's, at every mill and every list of mills.
-/
import Derived.Test.YtdpiepddafpceaaMillV
import Derived.Test.YtdpiepddafpceaaImpl
import Derived.Test.YtdpiepddafpceaaShar
namespace Go.Proofs.Ytdpiepddafpceaa
open Go.ChangeShapes Go.WideShapes Go.ChangeAt Go.RowKit

/-- A mill as a value. -/
abbrev Mil.agg (m : Mil) : Value := .agg #[.string m.name, .int .i64 m.stake, .int .i64 m.shares, .int .i64 m.cut, .bool m.shut]

theorem iShare_any (m : Mil) (w : World) :
    Calls Try.prog 50 #[.agg #[.string m.name, .int .i64 m.stake, .int .i64 m.shares, .int .i64 m.cut, .bool m.shut]] w fun e w' => e = .returned (.agg #[.int .i64 m.stake, .int .i64 m.shares]) ∧ Below w.heap.size w w' := by
  go_enter Try.func50, Try.ntmps50
  go_wp2
  refine bodyPost_ret (v := .agg #[.int .i64 m.stake, .int .i64 m.shares]) (by simp [results, Try.results50, go_sem]) rfl ⟨rfl, ?_⟩
  exact below_trans (below_new _ _) (below_new _ _)

/-- None: no Stake and no Shares. -/
def noneB (x y : Int) : Bool := x == 0 && y == 0

theorem iNone_any (x y : Int) (w : World) :
    Calls Try.prog 53 #[.agg #[.int .i64 x, .int .i64 y]] w fun e w' => e = .returned (.bool (noneB x y)) ∧ Below w.heap.size w w' := by
  have HN : Hid (noneB x y = (x == 0 && y == 0)) := rfl
  have he := eq_share x y 0 0
  go_enter Try.func53, Try.ntmps53
  cases hx : (x == 0) <;> cases hy : (y == 0)
  all_goals
    go_wp2
    go_ret
    exact ⟨by rw [HN.out, hx, hy]; rfl, below_new _ _⟩

/-- What 'right' answers: all but the name. -/
def rightB (m : Mil) : Bool := inB 0 1000000 m.stake && (inB 0 1000000000 m.shares && ((m.stake == 0 || decide (0 < m.shares)) && inB 0 100 m.cut))
theorem millB_right (m : Mil) : millB m = (nameB m.name && rightB m) := rfl
theorem none_zero {x y : Int} (h : y = 0) : noneB x y = (x == 0) := by subst h; simp [noneB]
theorem none_pos {x y : Int} (h : 0 < y) : noneB x y = false := by
  have : (y == 0) = false := by simp; omega
  simp [noneB, this]

set_option maxHeartbeats 1000000 in
theorem mright_any (m : Mil) (w : World) :
    Calls Try.prog 47 #[.agg #[.string m.name, .int .i64 m.stake, .int .i64 m.shares, .int .i64 m.cut, .bool m.shut]] w fun e w' => e = .returned (.bool (rightB m)) ∧ Below w.heap.size w w' := by
  have HN : Hid (rightB m = (inB 0 1000000 m.stake && (inB 0 1000000000 m.shares && ((m.stake == 0 || decide (0 < m.shares)) && inB 0 100 m.cut)))) := rfl
  cases h2 : inB 0 1000000 m.stake
  · go_enter Try.func47, Try.ntmps47
    go_wp2_with (go_at_call 40; refine (iAmountOk_any _ _).mono ?_; rintro e w' ⟨rfl, rfl⟩; rw [h2])
    go_ret
    exact ⟨by rw [HN.out, h2]; rfl, below_new _ _⟩
  cases h3 : inB 0 1000000000 m.shares
  · go_enter Try.func47, Try.ntmps47
    go_wp2_with (first | (go_at_call 40; refine (iAmountOk_any _ _).mono ?_; rintro e w' ⟨rfl, rfl⟩; rw [h2]) | (go_at_call 42; refine (iSharesOk_any _ _).mono ?_; rintro e w' ⟨rfl, rfl⟩; rw [h3]))
    go_ret
    exact ⟨by rw [HN.out, h2, h3]; rfl, below_new _ _⟩
  cases h6 : inB 0 100 m.cut
  · go_enter Try.func47, Try.ntmps47
    go_wp2_with (first | (go_at_call 40; refine (iAmountOk_any _ _).mono ?_; rintro e w' ⟨rfl, rfl⟩; rw [h2]) | (go_at_call 42; refine (iSharesOk_any _ _).mono ?_; rintro e w' ⟨rfl, rfl⟩; rw [h3]) | (go_at_call 52; refine (within_any _ _ _).mono ?_; rintro e w' ⟨rfl, rfl⟩; rw [h6]))
    go_ret
    exact ⟨by rw [HN.out, h2, h3, h6]; simp, below_new _ _⟩
  cases h5 : decide (0 < m.shares)
  · have h0 : m.shares = 0 := by have := inB_true h3; simp at h5; omega
    have HZ := Lib.hid (none_zero (x := m.stake) h0)
    clear h0
    go_enter Try.func47, Try.ntmps47
    go_wp2_with (first | (go_at_call 40; refine (iAmountOk_any _ _).mono ?_; rintro e w' ⟨rfl, rfl⟩; rw [h2]) | (go_at_call 42; refine (iSharesOk_any _ _).mono ?_; rintro e w' ⟨rfl, rfl⟩; rw [h3]) | (go_at_call 52; refine (within_any _ _ _).mono ?_; rintro e w' ⟨rfl, rfl⟩; rw [h6]) | (go_at_call 50; refine (iShare_any m _).mono ?_; rintro e w2 ⟨rfl, hb2⟩; have HB2 := Lib.hid (below_trans (below_new _ _) hb2); clear hb2) | (go_at_call 53; refine (iNone_any _ _ _).mono ?_; rintro e w3 ⟨rfl, hb3⟩; have HB3 := Lib.hid (below_trans HB2.out hb3); clear hb3; rw [HZ.out]))
    go_ret
    exact ⟨by rw [HN.out, h2, h3, h5, h6]; simp, HB3.out⟩
  · go_enter Try.func47, Try.ntmps47
    go_wp2_with (first | (go_at_call 40; refine (iAmountOk_any _ _).mono ?_; rintro e w' ⟨rfl, rfl⟩; rw [h2]) | (go_at_call 42; refine (iSharesOk_any _ _).mono ?_; rintro e w' ⟨rfl, rfl⟩; rw [h3]) | (go_at_call 52; refine (within_any _ _ _).mono ?_; rintro e w' ⟨rfl, rfl⟩; rw [h6]))
    go_ret
    exact ⟨by rw [HN.out, h2, h3, h5, h6]; simp, below_new _ _⟩

set_option maxHeartbeats 1000000 in
theorem iMillOk_any (m : Mil) (w : World) (hs : m.name.size ≤ maxLen) :
    Calls Try.prog 17 #[.agg #[.string m.name, .int .i64 m.stake, .int .i64 m.shares, .int .i64 m.cut, .bool m.shut]] w fun e w' => e = .returned (.bool (millB m)) ∧ Below w.heap.size w w' := by
  have HS := Lib.hid hs
  clear hs
  have HN := Lib.hid (millB_right m)
  cases h1 : nameB m.name
  · go_enter Try.func17, Try.ntmps17
    go_wp2_with (go_at_call 46; refine (iNameOk_any _ _ HS.out).mono ?_; rintro e w' ⟨rfl, rfl⟩; rw [h1])
    go_ret
    exact ⟨by rw [HN.out, h1]; rfl, below_new _ _⟩
  · go_enter Try.func17, Try.ntmps17
    go_wp2_with (first | (go_at_call 46; refine (iNameOk_any _ _ HS.out).mono ?_; rintro e w' ⟨rfl, rfl⟩; rw [h1]) | (go_at_call 47; refine (mright_any m _).mono ?_; rintro e w2 ⟨rfl, hb2⟩; have HB2 := Lib.hid (below_trans (below_new _ _) hb2); clear hb2))
    go_ret
    exact ⟨by rw [HN.out, h1, Bool.true_and]; rfl, HB2.out⟩

theorem info_mstrs : (Try.prog.info? 9).map (fun i => (i.zero, i.size, i.bytes)) = some (some (.string ByteArray.empty), 1, 16) := by kernel_rfl
theorem mm_called (m : Mil) (w : World) : (method 207 25 (.agg #[.string m.name, .int .i64 m.stake, .int .i64 m.shares, .int .i64 m.cut, .bool m.shut]) "loop.example/g00614/impl.called").run Try.prog w = .ok (90, .agg #[.string m.name, .int .i64 m.stake, .int .i64 m.shares, .int .i64 m.cut, .bool m.shut]) w := by kernel_rfl
theorem mm_right (m : Mil) (w : World) : (method 207 25 (.agg #[.string m.name, .int .i64 m.stake, .int .i64 m.shares, .int .i64 m.cut, .bool m.shut]) "loop.example/g00614/impl.right").run Try.prog w = .ok (47, .agg #[.string m.name, .int .i64 m.stake, .int .i64 m.shares, .int .i64 m.cut, .bool m.shut]) w := by kernel_rfl

/-- What 'names' leaves: the names, in the block behind all that was there. -/
def MToNames (ms : List Mil) (w : World) (e : Ending) (w' : World) : Prop :=
  e = .returned (.slice (some ⟨w.heap.size, 0, none⟩) ms.length ms.length) ∧ Strs w' (some ⟨w.heap.size, 0, none⟩) (mnames ms) ∧ Below w.heap.size w w'

set_option maxHeartbeats 1000000 in
theorem mnames_any {w : World} {a : Option Addr} {ms : List Mil} (cap : Nat) (h : Recs Mil.cs w a ms) (hl : ms.length ≤ 1048576) :
    Calls Try.prog 71 #[.slice a ms.length cap] w (MToNames ms w) := by
  have H := Lib.hid h
  clear h
  have hmk := run_make_row' (P := Try.prog) 83 9 (.string ByteArray.empty) 16 Try.underlying83 info_mstrs rfl .i64 .i64 ms.length (by omega) (by omega)
  go_enter Try.func71, Try.ntmps71
  go_wp2
  clear hmk
  go_loopw [11] (fun i w' => ∃ k : Nat, k ≤ ms.length ∧ i = .int .i64 k ∧ Room w ms.length ((mnames ms).map .string) k w') (fun i _ => ms.length - (intOf i).toNat)
  case atStart => exact ⟨0, Nat.zero_le _, rfl, Room.new _ _ _ _ _⟩
  case round =>
    obtain ⟨k, hk, rfl, hr⟩ := hrel
    by_cases hlt : k < ms.length
    · obtain ⟨b, off, rfl, hb, hc0, hc1, hc2, hc3, hc4⟩ := Mil.at H.out k hlt
      have hd0 := (hr.low.cell (p := ⟨b, off + k * 5, none⟩) hb).trans hc0
      have hd1 := (hr.low.cell (p := ⟨b, off + k * 5 + 1, none⟩) hb).trans hc1
      have hd2 := (hr.low.cell (p := ⟨b, off + k * 5 + 2, none⟩) hb).trans hc2
      have hd3 := (hr.low.cell (p := ⟨b, off + k * 5 + 3, none⟩) hb).trans hc3
      have hd4 := (hr.low.cell (p := ⟨b, off + k * 5 + 4, none⟩) hb).trans hc4
      have hm := mm_called ms[k]
      obtain ⟨u, hu⟩ := hr.all k hlt
      have hf := hr.free k
      have hlo := hr.has
      have hle := hr.low.size
      have HR := Lib.hid (((hr.set (v := .string ms[k].name) hlt (by rw [List.getElem?_map, List.getElem?_eq_getElem (by rw [len_mn]; exact hlt)]; simp [mnames])).below (below_new _ (.cells #[.string ms[k].name, .int .i64 ms[k].stake, .int .i64 ms[k].shares, .int .i64 ms[k].cut, .bool ms[k].shut] 25))).below (below_new _ (.cells #[.string ms[k].name, .int .i64 ms[k].stake, .int .i64 ms[k].shares, .int .i64 ms[k].cut, .bool ms[k].shut] 25)))
      clear hr hc0 hc1 hc2 hc3 hc4
      go_wp2
      go_roundw
      case rel => exact ⟨k + 1, by omega, by go_num, HR.out⟩
      case measure => simp [intOf]; omega
    · obtain rfl : k = ms.length := by omega
      have HR := Lib.hid hr
      clear hr
      go_wp2
      go_ret
      exact ⟨rfl, HR.out.lies (by simp [mnames]), HR.out.low⟩

/-- The first n are right, names aside. -/
def MGood (ms : List Mil) (n : Nat) : Prop := ∀ j (h : j < ms.length), j < n → rightB ms[j] = true
theorem MGood.zero (ms : List Mil) : MGood ms 0 := fun _ _ h => by omega
theorem MGood.succ {ms : List Mil} {k : Nat} (h : MGood ms k) (hk : k < ms.length) (h1 : rightB ms[k] = true) : MGood ms (k + 1) := by
  intro j hj hlt
  by_cases e : j = k
  · subst e; exact h1
  · exact h j hj (by omega)
theorem MGood.all {ms : List Mil} (h : MGood ms ms.length) (hr : risesB (mnames ms) = true) : MRight ms ms.length := by
  intro j hj _
  rw [millB_right, h j hj hj, Bool.and_true, ← mnames_at hj]
  exact rises_name hr (by rw [len_mn]; exact hj)
theorem mills_bad {ms : List Mil} {k : Nat} (hk : k < ms.length) (h : rightB ms[k] = false) : millsB ms = false :=
  mills_not hk (by rw [millB_right, h, Bool.and_false])

set_option maxHeartbeats 1000000 in
theorem mok_any {w : World} {a : Option Addr} {ms : List Mil} (cap : Nat) (h : Recs Mil.cs w a ms) (hl : ms.length ≤ 9223372036854775807) (hs : Sized (mnames ms)) :
    Calls Try.prog 61 #[.slice a ms.length cap, .int .i64 4] w fun e w' => e = .returned (.bool (millsB ms)) ∧ Below w.heap.size w w' := by
  have H := Lib.hid h
  have HS := Lib.hid hs
  clear h hs
  by_cases h4 : ms.length ≤ 4
  case neg =>
    have HN := Lib.hid (mills_long h4)
    have hd : decide ((4 : Int) < (ms.length : Int)) = true := by simp; omega
    go_enter Try.func61, Try.ntmps61
    go_wp2
    go_ret
    exact ⟨by rw [HN.out]; rfl, Below.refl _ _⟩
  have hd : decide ((4 : Int) < (ms.length : Int)) = false := by simp; omega
  go_enter Try.func61, Try.ntmps61
  go_wp2
  go_loopw [13] (fun i w' => ∃ k : Nat, k ≤ ms.length ∧ i = .int .i64 k ∧ MGood ms k ∧ Below w.heap.size w w') (fun i _ => ms.length - (intOf i).toNat)
  case atStart => exact ⟨0, Nat.zero_le _, rfl, MGood.zero _, Below.refl _ _⟩
  case round =>
    obtain ⟨k, hk, rfl, hm, hb⟩ := hrel
    have HM := Lib.hid hm
    have HB := Lib.hid hb
    clear hm hb
    by_cases hlt : k < ms.length
    · obtain ⟨b, off, rfl, _, hc, hc1, hc2, hc3, hc4⟩ := Mil.at (H.out.below HB.out) k hlt
      have hmr := mm_right ms[k]
      cases hi : rightB ms[k]
      · have HN := Lib.hid (mills_bad hlt hi)
        go_wp2_with (go_at_call 47; refine (mright_any ms[k] _).mono ?_; rintro e w2 ⟨rfl, hb2⟩; rw [hi]; have HB2 := Lib.hid (below_trans HB.out (below_trans (below_new _ _) hb2)); clear hb2)
        go_ret
        exact ⟨by rw [HN.out]; rfl, HB2.out⟩
      · have HN := Lib.hid (HM.out.succ hlt hi)
        go_wp2_with (go_at_call 47; refine (mright_any ms[k] _).mono ?_; rintro e w2 ⟨rfl, hb2⟩; rw [hi]; have HB2 := Lib.hid (below_trans HB.out (below_trans (below_new _ _) hb2)); clear hb2)
        go_roundw
        case rel => exact ⟨k + 1, by omega, by go_num, HN.out, HB2.out⟩
        case measure => simp [intOf]; omega
    · obtain rfl : k = ms.length := by omega
      go_wp2_with fail
      refine (mnames_any _ (H.out.below HB.out) (by omega)).mono ?_
      rintro e w2 ⟨rfl, hs2, hb2⟩
      have HS2 := Lib.hid hs2
      have HB2 := Lib.hid (below_trans HB.out hb2)
      clear hs2 hb2
      have HP := Lib.hid (len_mn ms)
      have hri : Calls Try.prog 72 #[.slice (some ⟨wr.heap.size, 0, none⟩) ms.length ms.length] w2 fun e w' => e = .returned (.bool (risesB (mnames ms))) ∧ w2 = w' := by
        have := iRises_any ms.length HS2.out (by rw [HP.out]; omega) HS.out
        rw [HP.out] at this
        exact this
      have HRI := Lib.hid hri
      clear hri
      go_wp2_with fail
      refine HRI.out.mono ?_
      rintro e w' ⟨rfl, rfl⟩
      cases hr : risesB (mnames ms)
      · have HN := Lib.hid (mills_rise hr)
        go_wp2
        go_ret
        exact ⟨by rw [HN.out]; rfl, HB2.out⟩
      · have HN := Lib.hid (mills_yes h4 (HM.out.all hr) hr)
        go_wp2
        go_ret
        exact ⟨by rw [HN.out]; rfl, HB2.out⟩

theorem iMillsOk_any {w : World} {a : Option Addr} {ms : List Mil} (cap : Nat) (h : Recs Mil.cs w a ms) (hl : ms.length ≤ 9223372036854775807) (hs : Sized (mnames ms)) :
    Calls Try.prog 26 #[.slice a ms.length cap] w fun e w' => e = .returned (.bool (millsB ms)) ∧ Below w.heap.size w w' := by
  go_enter Try.func26, Try.ntmps26
  go_wp2_with (go_at_call 61; refine (mok_any _ h hl hs).mono ?_; rintro e w2 ⟨rfl, hb2⟩)
  go_ret
  exact ⟨rfl, hb2⟩

theorem mplace_any {w : World} {a : Option Addr} {ms : List Mil} (cap : Nat) (s : ByteArray) (h : Recs Mil.cs w a ms) (hl : ms.length ≤ 1048576) :
    Calls Try.prog 60 #[.slice a ms.length cap, .string s] w fun e w' => e = .returned (.int .i64 (placeV (mnames ms) s)) ∧ Below w.heap.size w w' := by
  have H := Lib.hid h
  clear h
  go_enter Try.func60, Try.ntmps60
  go_wp2_with fail
  refine (mnames_any _ H.out hl).mono ?_
  rintro e w2 ⟨rfl, hs2, hb2⟩
  have HB2 := Lib.hid hb2
  have HP := Lib.hid (len_mn ms)
  have hri : Calls Try.prog 70 #[.slice (some ⟨w.heap.size, 0, none⟩) ms.length ms.length, .string s] w2 fun e w' => e = .returned (.int .i64 (placeV (mnames ms) s)) ∧ w2 = w' := by
    have := iPlaceIn_any ms.length s hs2 (by rw [HP.out]; omega)
    rw [HP.out] at this
    exact this
  have HRI := Lib.hid hri
  clear hri hs2 hb2
  go_wp2_with fail
  refine HRI.out.mono ?_
  rintro e w' ⟨rfl, rfl⟩
  go_wp2
  go_ret
  exact ⟨rfl, HB2.out⟩

set_option maxHeartbeats 2000000 in
theorem iMillIn_any {w : World} {a : Option Addr} {ms : List Mil} (cap : Nat) (s : ByteArray) (h : Recs Mil.cs w a ms) (hl : ms.length ≤ 9223372036854775807) (hs : Sized (mnames ms)) :
    Calls Try.prog 24 #[.slice a ms.length cap, .string s] w (MillRes (millInV ms s) (millInB ms s) w) := by
  have H := Lib.hid h
  have HS := Lib.hid hs
  clear h hs
  go_enter Try.func24, Try.ntmps24
  go_wp2_with fail
  refine (iMillsOk_any _ (H.out.below (below_new _ _)) hl HS.out).mono ?_
  rintro e w1 ⟨rfl, hb1⟩
  have HB1 := Lib.hid (below_trans (below_new w (.cells #[.string ByteArray.empty, .int .i64 0, .int .i64 0, .int .i64 0, .bool false] 25)) hb1)
  have hlt1 : w.heap.size < w1.heap.size := by have := hb1.size; simp at this; omega
  obtain ⟨hcc, hff⟩ := kept_all hb1
  clear hb1
  cases hf : millsB ms
  · have HN := Lib.hid (millIn_no (s := s) hf)
    go_wp2
    refine bodyPost_ret (v := .tuple #[.agg #[.string ByteArray.empty, .int .i64 0, .int .i64 0, .int .i64 0, .bool false], .bool false]) (by simp [results, Try.results24, go_sem, hcc]; rfl) rfl ⟨by rw [HN.out.1, HN.out.2]; rfl, ?_⟩
    exact ((((HB1.out.setCell (Nat.le_refl _) _).setCell (Nat.le_refl _) _).setCell (Nat.le_refl _) _).setCell (Nat.le_refl _) _).setCell (Nat.le_refl _) _
  · have h4 := (mills_true hf).1
    go_wp2_with fail
    refine (mplace_any _ _ (H.out.below HB1.out) (by omega)).mono ?_
    rintro e w2 ⟨rfl, hb2⟩
    have HB2 := Lib.hid (below_trans HB1.out hb2)
    have hlt2 : w.heap.size < w2.heap.size := by have := hb2.size; omega
    obtain ⟨hcd, hfd⟩ := kept_all hb2
    clear hb2
    by_cases hp : 0 ≤ placeV (mnames ms) s
    · obtain ⟨k, e, hk, hq⟩ := place_hit hp
      have hk' : k < ms.length := by rw [len_mn] at hk; exact hk
      have HN := Lib.hid (millIn_in hf e hk')
      rw [e]
      obtain ⟨b, off, rfl, _, hc, hc1, hc2, hc3, hc4⟩ := Mil.at (H.out.below HB2.out) k hk'
      clear hp e hk hq
      go_wp2
      refine bodyPost_ret (v := .tuple #[.agg #[.string ms[k].name, .int .i64 ms[k].stake, .int .i64 ms[k].shares, .int .i64 ms[k].cut, .bool ms[k].shut], .bool true]) (by simp [results, Try.results24, go_sem, hcd, hcc, hlt1]) rfl ⟨by rw [HN.out.1, HN.out.2], ?_⟩
      exact ((((HB2.out.setCell (Nat.le_refl _) _).setCell (Nat.le_refl _) _).setCell (Nat.le_refl _) _).setCell (Nat.le_refl _) _).setCell (Nat.le_refl _) _
    · have HN := Lib.hid (millIn_out hp)
      have hlo := mplace_lo ms s
      have hpe : placeV (mnames ms) s = -1 := by omega
      rw [hpe]
      clear hp hpe hlo
      go_wp2
      refine bodyPost_ret (v := .tuple #[.agg #[.string ByteArray.empty, .int .i64 0, .int .i64 0, .int .i64 0, .bool false], .bool false]) (by simp [results, Try.results24, go_sem, hcd, hcc, hlt1]; rfl) rfl ⟨by rw [HN.out.1, HN.out.2]; rfl, ?_⟩
      exact ((((HB2.out.setCell (Nat.le_refl _) _).setCell (Nat.le_refl _) _).setCell (Nat.le_refl _) _).setCell (Nat.le_refl _) _).setCell (Nat.le_refl _) _

theorem none_right {m : Mil} (h : millB m = true) : noneB m.stake m.shares = (m.shares == 0) := by
  have hp := millB_parts h
  by_cases h0 : m.shares = 0
  · have h1 : m.stake = 0 := by omega
    simp [noneB, h0, h1]
  · rw [none_pos (by omega)]; symm; simp [h0]

set_option maxHeartbeats 2000000 in
theorem iWorth_any (m : Mil) (n : Int) (w : World) (hs : m.name.size ≤ maxLen) :
    Calls Try.prog 21 #[.agg #[.string m.name, .int .i64 m.stake, .int .i64 m.shares, .int .i64 m.cut, .bool m.shut], .int .i64 n] w fun e w' => e = .returned (.int .i64 (worthV m n)) ∧ Below w.heap.size w w' := by
  have HS := Lib.hid hs
  clear hs
  go_enter Try.func21, Try.ntmps21
  go_wp2_with fail
  refine (iMillOk_any m _ HS.out).mono ?_
  rintro e w2 ⟨rfl, hb2⟩
  have HB2 := Lib.hid (below_trans (below_new w (.cells #[.string m.name, .int .i64 m.stake, .int .i64 m.shares, .int .i64 m.cut, .bool m.shut] 25)) hb2)
  obtain ⟨hcc, hff⟩ := kept_all hb2
  have hlt2 : w.heap.size < w2.heap.size := by have := hb2.size; simp at this; omega
  clear hb2
  cases hm : millB m
  · have HN := Lib.hid (worth_no (n := n) hm)
    go_wp2
    go_ret
    exact ⟨by rw [HN.out]; rfl, HB2.out⟩
  cases hi : inB 0 m.shares n
  · have HN := Lib.hid (worth_not hi)
    go_wp2_with (go_at_call 52; refine (within_any _ _ _).mono ?_; rintro e w' ⟨rfl, rfl⟩; rw [hi])
    go_ret
    exact ⟨by rw [HN.out]; rfl, HB2.out⟩
  have HZ := Lib.hid (none_right hm)
  go_wp2_with (go_at_call 52; refine (within_any _ _ _).mono ?_; rintro e w' ⟨rfl, rfl⟩; rw [hi])
  refine (iShare_any m _).mono ?_
  rintro e w3 ⟨rfl, hb3⟩
  have HB3 := Lib.hid (below_trans HB2.out hb3)
  obtain ⟨hcd, hfd⟩ := kept_all hb3
  have hlt3 : w.heap.size < w3.heap.size := by have := hb3.size; omega
  clear hb3
  go_wp2_with fail
  refine (iNone_any _ _ _).mono ?_
  rintro e w4 ⟨rfl, hb4⟩
  have HB4 := Lib.hid (below_trans HB3.out hb4)
  obtain ⟨hce, hfe⟩ := kept_all hb4
  clear hb4
  rw [HZ.out]
  cases hz : (m.shares == 0)
  · have HN := Lib.hid (worth_down hm hi (by simpa using hz))
    go_wp2_with fail
    refine (iDown_any _ _ _ _).mono ?_
    rintro e w5 ⟨rfl, hb5, -⟩
    have HB5 := Lib.hid (below_trans HB4.out hb5)
    clear hb5
    go_wp2
    go_ret
    exact ⟨by rw [HN.out]; rfl, HB5.out⟩
  · have HN := Lib.hid (worth_zero hm hi (by simpa using hz))
    go_wp2
    go_ret
    exact ⟨by rw [HN.out]; rfl, HB4.out⟩

/-- What 'bought' answers. -/
def boughtV (m : Mil) (n : Int) : Int := if noneB m.stake m.shares = true then 1000 * n else downV n m.shares m.stake

set_option maxHeartbeats 2000000 in
theorem bought_any (m : Mil) (n : Int) (w : World) (h0 : 0 ≤ n) (h1 : n ≤ 1000000) :
    Calls Try.prog 41 #[.agg #[.string m.name, .int .i64 m.stake, .int .i64 m.shares, .int .i64 m.cut, .bool m.shut], .int .i64 n] w fun e w' => e = .returned (.int .i64 (boughtV m n)) ∧ Below w.heap.size w w' := by
  go_enter Try.func41, Try.ntmps41
  go_wp2_with fail
  refine (iShare_any m _).mono ?_
  rintro e w3 ⟨rfl, hb3⟩
  have HB3 := Lib.hid (below_trans (below_new w (.cells #[.string m.name, .int .i64 m.stake, .int .i64 m.shares, .int .i64 m.cut, .bool m.shut] 25)) hb3)
  obtain ⟨hcd, hfd⟩ := kept_all hb3
  have hlt3 : w.heap.size < w3.heap.size := by have := hb3.size; simp at this; omega
  clear hb3
  go_wp2_with fail
  refine (iNone_any _ _ _).mono ?_
  rintro e w4 ⟨rfl, hb4⟩
  have HB4 := Lib.hid (below_trans HB3.out hb4)
  obtain ⟨hce, hfe⟩ := kept_all hb4
  clear hb4
  cases hz : noneB m.stake m.shares
  · have HN := Lib.hid (show boughtV m n = downV n m.shares m.stake by unfold boughtV; rw [hz]; rfl)
    go_wp2_with fail
    refine (iDown_any _ _ _ _).mono ?_
    rintro e w5 ⟨rfl, hb5, -⟩
    have HB5 := Lib.hid (below_trans HB4.out hb5)
    clear hb5
    go_wp2
    go_ret
    exact ⟨by rw [HN.out]; rfl, HB5.out⟩
  · have HN := Lib.hid (show boughtV m n = 1000 * n by unfold boughtV; rw [hz]; rfl)
    go_wp2
    go_ret
    exact ⟨by rw [HN.out]; rfl, HB4.out⟩

theorem down_zero (a b : Int) : downV a b 0 = -1 := by simp [downV, okD, inB]
/-- 'SharesFor' by 'bought'. -/
theorem for_bought {m : Mil} {n : Int} (hm : millB m = true) (hi : inB 1 1000000 n = true) : (-1 ≤ boughtV m n ∧ boughtV m n ≤ 1000000000000000000) ∧ sharesForV m n = if inB 0 1000000000 (m.shares + boughtV m n) = true then boughtV m n else -1 := by
  have hp := millB_parts hm
  have hn := inB_true hi
  unfold boughtV
  rw [none_right hm]
  by_cases h0 : 0 < m.shares
  · have e0 : (m.shares == 0) = false := by simp; omega
    rw [e0]
    by_cases hz : m.stake = 0
    · rw [hz, down_zero, for_no (buy_none h0 hz)]
      exact ⟨by simp, by simp⟩
    · have hv : buyV m n = downV n m.shares m.stake := by unfold buyV; rw [if_pos h0]
      have hb := buy_bd hm hi (by omega)
      rw [hv] at hb
      refine ⟨by simp; omega, ?_⟩
      cases ho : inB 0 1000000000 (m.shares + downV n m.shares m.stake)
      · rw [for_over (by rw [hv]; exact ho)]; simp [ho]
      · rw [for_yes (buy_yes hm hi (by omega)) (by rw [hv]; exact ho)]; simp [ho, hv]
  · have e0 : (m.shares == 0) = true := by simp; omega
    rw [e0]
    have hv : buyV m n = 1000 * n := by unfold buyV; rw [if_neg h0]
    refine ⟨by simp; omega, ?_⟩
    cases ho : inB 0 1000000000 (m.shares + 1000 * n)
    · rw [for_over (by rw [hv]; exact ho)]; simp [ho]
    · rw [for_yes (buy_yes hm hi (by omega)) (by rw [hv]; exact ho)]; simp [ho, hv]

set_option maxHeartbeats 2000000 in
theorem iSharesFor_any (m : Mil) (n : Int) (w : World) (hs : m.name.size ≤ maxLen) :
    Calls Try.prog 14 #[.agg #[.string m.name, .int .i64 m.stake, .int .i64 m.shares, .int .i64 m.cut, .bool m.shut], .int .i64 n] w fun e w' => e = .returned (.int .i64 (sharesForV m n)) ∧ Below w.heap.size w w' := by
  have HS := Lib.hid hs
  clear hs
  go_enter Try.func14, Try.ntmps14
  go_wp2_with fail
  refine (iMillOk_any m _ HS.out).mono ?_
  rintro e w2 ⟨rfl, hb2⟩
  have HB2 := Lib.hid (below_trans (below_new w (.cells #[.string m.name, .int .i64 m.stake, .int .i64 m.shares, .int .i64 m.cut, .bool m.shut] 25)) hb2)
  obtain ⟨hcc, hff⟩ := kept_all hb2
  have hlt2 : w.heap.size < w2.heap.size := by have := hb2.size; simp at this; omega
  clear hb2
  cases hm : millB m
  · have HN := Lib.hid (for_no (buy_mill (n := n) hm))
    go_wp2
    go_ret
    exact ⟨by rw [HN.out]; rfl, HB2.out⟩
  cases hi : inB 0 1000000 n
  · have HN := Lib.hid (for_no (buy_n (m := m) (n := n) (by cases h1 : inB 1 1000000 n; rfl; have := inB_true h1; rw [inB_of (by omega) (by omega)] at hi; cases hi)))
    go_wp2_with (go_at_call 40; refine (iAmountOk_any _ _).mono ?_; rintro e w' ⟨rfl, rfl⟩; rw [hi])
    go_ret
    exact ⟨by rw [HN.out]; rfl, HB2.out⟩
  cases hz : (n == 0)
  case true =>
    have HN := Lib.hid (for_no (buy_n (m := m) (n := n) (by cases h1 : inB 1 1000000 n; rfl; have := inB_true h1; simp at hz; omega)))
    go_wp2_with (go_at_call 40; refine (iAmountOk_any _ _).mono ?_; rintro e w' ⟨rfl, rfl⟩; rw [hi])
    go_ret
    exact ⟨by rw [HN.out]; rfl, HB2.out⟩
  have hn := inB_true hi
  have hi1 : inB 1 1000000 n = true := inB_of (by simp at hz; omega) (by omega)
  obtain ⟨⟨p1, p2⟩, hv⟩ := for_bought hm hi1
  have HV := Lib.hid hv
  obtain ⟨⟨-, -⟩, ⟨q1, q2⟩, -, -⟩ := millB_parts hm
  clear hv
  obtain ⟨v, HW⟩ : ∃ v, Hid (boughtV m n = v) := ⟨_, Lib.hid rfl⟩
  rw [HW.out] at p1 p2
  go_wp2_with (go_at_call 40; refine (iAmountOk_any _ _).mono ?_; rintro e w' ⟨rfl, rfl⟩; rw [hi])
  refine (bought_any m n _ hn.1 hn.2).mono ?_
  rw [HW.out]
  rintro e w3 ⟨rfl, hb3⟩
  have HB3 := Lib.hid (below_trans HB2.out hb3)
  obtain ⟨hcd, hfd⟩ := kept_all hb3
  clear hb3
  cases ho : inB 0 1000000000 (m.shares + v)
  · have HN := Lib.hid (show sharesForV m n = -1 by rw [HV.out, HW.out, ho]; rfl)
    go_wp2_with (go_at_call 42; refine (iSharesOk_any _ _).mono ?_; rintro e w' ⟨rfl, rfl⟩; rw [ho])
    go_ret
    exact ⟨by rw [HN.out]; rfl, HB3.out⟩
  · have HN := Lib.hid (show sharesForV m n = v by rw [HV.out, HW.out, ho]; rfl)
    go_wp2_with (go_at_call 42; refine (iSharesOk_any _ _).mono ?_; rintro e w' ⟨rfl, rfl⟩; rw [ho])
    go_ret
    exact ⟨by rw [HN.out]; rfl, HB3.out⟩

set_option maxHeartbeats 2000000 in
theorem iStakesIn_any {w : World} {a : Option Addr} {ms : List Mil} (cap : Nat) (h : Recs Mil.cs w a ms) (hl : ms.length ≤ 9223372036854775807) (hs : Sized (mnames ms)) :
    Calls Try.prog 28 #[.slice a ms.length cap] w fun e w' => e = .returned (.int .i64 (stakesV ms)) ∧ Below w.heap.size w w' := by
  have H := Lib.hid h
  have HS := Lib.hid hs
  clear h hs
  go_enter Try.func28, Try.ntmps28
  go_wp2_with fail
  refine (iMillsOk_any _ H.out hl HS.out).mono ?_
  rintro e w1 ⟨rfl, hb1⟩
  have HB1 := Lib.hid hb1
  clear hb1
  cases hf : millsB ms
  · have HN := Lib.hid (show stakesV ms = -1 by simp [stakesV, hf])
    go_wp2
    go_ret
    exact ⟨by rw [HN.out]; rfl, HB1.out⟩
  have HN := Lib.hid (show stakesV ms = sumM ms ms.length by simp [stakesV, hf])
  obtain ⟨h4, hm, -⟩ := mills_true hf
  have HM := Lib.hid hm
  have HR := Lib.hid (H.out.below HB1.out)
  clear hm hf H
  go_wp2
  go_loopw [3, 11] (fun t i w' => ∃ k : Nat, k ≤ ms.length ∧ i = .int .i64 k ∧ t = .int .i64 (sumM ms k) ∧ Below w1.heap.size w1 w') (fun _ i _ => ms.length - (intOf i).toNat)
  case atStart => exact ⟨0, Nat.zero_le _, rfl, rfl, Below.refl _ _⟩
  case round =>
    obtain ⟨k, hk, rfl, rfl, hb⟩ := hrel
    have HB := Lib.hid hb
    clear hb
    have hb := sumM_bd HM.out k hk
    by_cases hlt : k < ms.length
    · obtain ⟨b, off, rfl, _, c0, c1, c2, c3, c4⟩ := Mil.at (HR.out.below HB.out) k hlt
      have HE := Lib.hid (show sumM ms (k + 1) = sumM ms k + ms[k].stake by simp only [sumM, getD_mil hlt])
      have HB2 := Lib.hid (below_trans HB.out (below_new _ (.cells #[.string ms[k].name, .int .i64 ms[k].stake, .int .i64 ms[k].shares, .int .i64 ms[k].cut, .bool ms[k].shut] 25)))
      have hb3 := (millB_parts (HM.out k hlt hlt)).1
      go_wp2
      go_roundw
      case rel => exact ⟨k + 1, by omega, by go_num, by rw [HE.out], HB2.out⟩
      case measure => simp [intOf]; omega
    · obtain rfl : k = ms.length := by omega
      go_wp2
      go_ret
      exact ⟨by rw [HN.out]; rfl, below_trans HB1.out HB.out⟩

set_option maxHeartbeats 2000000 in
theorem iLess_any (x y u v : Int) (w : World) (h1 : 0 ≤ x * v ∧ x * v ≤ 1000000000000000000) (h2 : 0 ≤ u * y ∧ u * y ≤ 1000000000000000000) :
    Calls Try.prog 51 #[.agg #[.int .i64 x, .int .i64 y], .agg #[.int .i64 u, .int .i64 v]] w fun e w' => e = .returned (.bool (decide (x * v < u * y))) ∧ Below w.heap.size w w' := by
  obtain ⟨b1, b2⟩ := h1
  obtain ⟨b3, b4⟩ := h2
  cases h : decide (x * v < u * y)
  all_goals
    go_enter Try.func51, Try.ntmps51
    go_wp2
    go_ret
    exact ⟨rfl, below_trans (below_new _ _) (below_new _ _)⟩

theorem cheap_less {x y : Mil} (hx : millB x = true) (hy : millB y = true) : cheapB x y = decide (x.stake * y.shares < y.stake * x.shares) := by
  have h1 := millB_parts hx
  have h2 := millB_parts hy
  unfold cheapB
  rw [hx, hy]
  by_cases a : x.shares = 0
  · have e : x.stake = 0 := by omega
    simp [a, e]
  · by_cases b : y.shares = 0
    · have e : y.stake = 0 := by omega
      simp [b, e]
    · have ea : (x.shares == 0) = false := by simpa using a
      have eb : (y.shares == 0) = false := by simpa using b
      simp [ea, eb]

set_option maxHeartbeats 4000000 in
theorem iCheaper_any (x y : Mil) (w : World) (hsx : x.name.size ≤ maxLen) (hsy : y.name.size ≤ maxLen) :
    Calls Try.prog 19 #[.agg #[.string x.name, .int .i64 x.stake, .int .i64 x.shares, .int .i64 x.cut, .bool x.shut], .agg #[.string y.name, .int .i64 y.stake, .int .i64 y.shares, .int .i64 y.cut, .bool y.shut]] w fun e w' => e = .returned (.bool (cheapB x y)) ∧ Below w.heap.size w w' := by
  have HSX := Lib.hid hsx
  have HSY := Lib.hid hsy
  clear hsx hsy
  have rx := RecAt.new Mil.cs w x 25
  have bx := below_new w (.cells x.cs.toArray 25)
  have ry := RecAt.new Mil.cs (w.alloc (.cells x.cs.toArray 25)) y 25
  have by_ := below_new (w.alloc (.cells x.cs.toArray 25)) (.cells y.cs.toArray 25)
  have RX := Lib.hid (show RecAt Mil.cs ((w.alloc (.cells #[.string x.name, .int .i64 x.stake, .int .i64 x.shares, .int .i64 x.cut, .bool x.shut] 25)).alloc (.cells #[.string y.name, .int .i64 y.stake, .int .i64 y.shares, .int .i64 y.cut, .bool y.shut] 25)) w.heap.size x from rx.below by_)
  have ry' : RecAt Mil.cs ((w.alloc (.cells x.cs.toArray 25)).alloc (.cells y.cs.toArray 25)) (w.heap.size + 1) y := by simpa using ry
  have RY := Lib.hid (show RecAt Mil.cs ((w.alloc (.cells #[.string x.name, .int .i64 x.stake, .int .i64 x.shares, .int .i64 x.cut, .bool x.shut] 25)).alloc (.cells #[.string y.name, .int .i64 y.stake, .int .i64 y.shares, .int .i64 y.cut, .bool y.shut] 25)) (w.heap.size + 1) y from ry')
  have BB := Lib.hid (show Below w.heap.size w ((w.alloc (.cells #[.string x.name, .int .i64 x.stake, .int .i64 x.shares, .int .i64 x.cut, .bool x.shut] 25)).alloc (.cells #[.string y.name, .int .i64 y.stake, .int .i64 y.shares, .int .i64 y.cut, .bool y.shut] 25)) from below_trans bx by_)
  clear rx ry ry' bx by_
  have x0 := Grow.cell (RX.out 0 _ rfl)
  have x1 := Grow.cell (RX.out 1 _ rfl)
  have x2 := Grow.cell (RX.out 2 _ rfl)
  have x3 := Grow.cell (RX.out 3 _ rfl)
  have x4 := Grow.cell (RX.out 4 _ rfl)
  have y0 := Grow.cell (RY.out 0 _ rfl)
  have y1 := Grow.cell (RY.out 1 _ rfl)
  have y2 := Grow.cell (RY.out 2 _ rfl)
  have y3 := Grow.cell (RY.out 3 _ rfl)
  have y4 := Grow.cell (RY.out 4 _ rfl)
  cases hx : millB x
  · have HN := Lib.hid (show cheapB x y = false by unfold cheapB; rw [hx]; rfl)
    go_enter Try.func19, Try.ntmps19
    go_wp2
    refine wp_region_grow (by kernel_rfl) (by kernel_rfl) ?_
    repeat (go_big_quiet_step ((go_at_call 17; exact grow_call (bool_is hx) (iMillOk_any x _ HSX.out))))
    refine wpQuiet_nil ?_
    intro _ hw'
    obtain ⟨gq, rfl⟩ := hw'
    have B1 := Lib.hid (below_trans BB.out gq.ok)
    go_wp2
    go_ret
    exact ⟨by rw [HN.out]; rfl, B1.out⟩
  cases hy : millB y
  · have HN := Lib.hid (show cheapB x y = false by unfold cheapB; rw [hx, hy]; rfl)
    go_enter Try.func19, Try.ntmps19
    go_wp2
    refine wp_region_grow (by kernel_rfl) (by kernel_rfl) ?_
    repeat (go_big_quiet_step ((go_at_call 17; first | (with_reducible exact grow_call (bool_is hx) (iMillOk_any x _ HSX.out)) | (with_reducible exact grow_call (bool_is hy) (iMillOk_any y _ HSY.out)))))
    refine wpQuiet_nil ?_
    intro _ hw'
    obtain ⟨gq, rfl⟩ := hw'
    have B1 := Lib.hid (below_trans BB.out gq.ok)
    go_wp2
    go_ret
    exact ⟨by rw [HN.out]; rfl, B1.out⟩
  have HN := Lib.hid (cheap_less hx hy)
  have HP := Lib.hid (stake_bd hx hy)
  have HQ := Lib.hid (stake_bd hy hx)
  go_enter Try.func19, Try.ntmps19
  go_wp2
  refine wp_region_grow (by kernel_rfl) (by kernel_rfl) ?_
  repeat (go_big_quiet_step (first | (go_at_call 17; first | (with_reducible exact grow_call (bool_is hx) (iMillOk_any x _ HSX.out)) | (with_reducible exact grow_call (bool_is hy) (iMillOk_any y _ HSY.out))) | (go_at_call 50; first | (with_reducible exact grow_call rfl (iShare_any x _)) | (with_reducible exact grow_call rfl (iShare_any y _))) | (go_at_call 51; exact grow_call rfl (iLess_any _ _ _ _ _ HP.out HQ.out))))
  refine wpQuiet_nil ?_
  intro _ hw'
  obtain ⟨gq, rfl⟩ := hw'
  have B1 := Lib.hid (below_trans BB.out gq.ok)
  go_wp2
  go_ret
  exact ⟨by rw [HN.out]; rfl, B1.out⟩
end Go.Proofs.Ytdpiepddafpceaa
