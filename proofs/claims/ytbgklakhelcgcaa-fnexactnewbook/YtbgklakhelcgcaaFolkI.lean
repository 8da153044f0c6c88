/-
  What the program's FolkOk, and all that a list of purses does, answers.
-/
import Derived.Test.YtbgklakhelcgcaaFolk
namespace Go.Proofs.Ytbgklakhelcgcaa
open Go.ChangeShapes Go.WideShapes Go.ChangeAt Go.RowKit

theorem info_strs : (Try.prog.info? 9).map (fun i => (i.zero, i.size, i.bytes)) = some (some (.string ByteArray.empty), 1, 16) := by kernel_rfl

theorem m_called (s : ByteArray) (n : Int) (w : World) : (method 209 44 (.agg #[.string s, .int .i64 n]) "loop.example/g00614/impl.called").run Try.prog w = .ok (79, .agg #[.string s, .int .i64 n]) w := by kernel_rfl
theorem m_right (s : ByteArray) (n : Int) (w : World) : (method 209 44 (.agg #[.string s, .int .i64 n]) "loop.example/g00614/impl.right").run Try.prog w = .ok (80, .agg #[.string s, .int .i64 n]) w := by kernel_rfl

/-- What 'names' leaves: the names, in the block behind all that was there. -/
def ToNames (ps : List Pur) (w : World) (e : Ending) (w' : World) : Prop :=
  e = .returned (.slice (some ⟨w.heap.size, 0, none⟩) ps.length ps.length) ∧ Strs w' (some ⟨w.heap.size, 0, none⟩) (pnames ps) ∧ Below w.heap.size w w'

set_option maxHeartbeats 1000000 in
set_option maxRecDepth 100000 in
theorem names_any {w : World} {a : Option Addr} {ps : List Pur} (cap : Nat) (h : Purs w a ps) (hl : ps.length ≤ 1048576) :
    Calls Try.prog 59 #[.slice a ps.length cap] w (ToNames ps w) := by
  have H := Lib.hid h
  clear h
  have hmk := run_make_row' (P := Try.prog) 86 9 (.string ByteArray.empty) 16 Try.underlying86 info_strs rfl .i64 .i64 ps.length (by omega) (by omega)
  go_enter Try.func59, Try.ntmps59
  go_wp2
  clear hmk
  go_loopw [11] (fun i w' => ∃ k : Nat, k ≤ ps.length ∧ i = .int .i64 k ∧ Room w ps.length ((pnames ps).map .string) k w') (fun i _ => ps.length - (intOf i).toNat)
  case atStart => exact ⟨0, Nat.zero_le _, rfl, Room.new _ _ _ _ _⟩
  case round =>
    obtain ⟨k, hk, rfl, hr⟩ := hrel
    by_cases hlt : k < ps.length
    · obtain ⟨b, off, rfl, hb, hc0, hc1⟩ := H.out.at k hlt
      have hc := (hr.low.cell (p := ⟨b, off + k * 2, none⟩) hb).trans hc0
      have hc' := (hr.low.cell (p := ⟨b, off + k * 2 + 1, none⟩) hb).trans hc1
      have hm := m_called ps[k].name ps[k].free
      obtain ⟨u, hu⟩ := hr.all k hlt
      have hf := hr.free k
      have hlo := hr.has
      have hle := hr.low.size
      have HR := Lib.hid (((hr.set (v := .string ps[k].name) hlt (by rw [List.getElem?_map, List.getElem?_eq_getElem (by rw [len_pn]; exact hlt)]; simp [pnames])).below (below_new _ (.cells #[.string ps[k].name, .int .i64 ps[k].free] 44))).below (below_new _ (.cells #[.string ps[k].name, .int .i64 ps[k].free] 44)))
      clear hr hc0 hc1
      go_wp2
      go_roundw
      case rel => exact ⟨k + 1, by omega, by go_num, HR.out⟩
      case measure => simp [intOf]; omega
    · obtain rfl : k = ps.length := by omega
      have HR := Lib.hid hr
      clear hr
      go_wp2
      go_ret
      exact ⟨rfl, HR.out.lies (by simp [pnames]), HR.out.low⟩

set_option maxHeartbeats 1000000 in
set_option maxRecDepth 100000 in
theorem right_any (s : ByteArray) (n : Int) (w : World) :
    Calls Try.prog 80 #[.agg #[.string s, .int .i64 n]] w fun e w' => e = .returned (.bool (inB 0 1000000 n)) ∧ Below w.heap.size w w' := by
  go_enter Try.func80, Try.ntmps80
  go_wp2_with (go_at_call 19; refine (iAmountOk_any _ _).mono ?_; rintro e w' ⟨rfl, rfl⟩)
  go_ret
  exact ⟨rfl, below_new _ _⟩

set_option maxHeartbeats 1000000 in
set_option maxRecDepth 100000 in
theorem ok_any {w : World} {a : Option Addr} {ps : List Pur} (cap : Nat) (h : Purs w a ps) (hl : ps.length ≤ 1048576) (hs : Sized (pnames ps)) :
    Calls Try.prog 54 #[.slice a ps.length cap, .int .i64 8] w fun e w' => e = .returned (.bool (folkB ps)) ∧ Below w.heap.size w w' := by
  have H := Lib.hid h
  have HS := Lib.hid hs
  clear h hs
  by_cases h8 : ps.length ≤ 8
  case neg =>
    have HN := Lib.hid (folk_long h8)
    have hd : decide ((8 : Int) < (ps.length : Int)) = true := by simp; omega
    go_enter Try.func54, Try.ntmps54
    go_wp2
    go_ret
    exact ⟨by rw [HN.out]; rfl, Below.refl _ _⟩
  have hd : decide ((8 : Int) < (ps.length : Int)) = false := by simp; omega
  go_enter Try.func54, Try.ntmps54
  go_wp2
  go_loopw [13] (fun i w' => ∃ k : Nat, k ≤ ps.length ∧ i = .int .i64 k ∧ Amts ps k ∧ Below w.heap.size w w') (fun i _ => ps.length - (intOf i).toNat)
  case atStart => exact ⟨0, Nat.zero_le _, rfl, Amts.zero _, Below.refl _ _⟩
  case round =>
    obtain ⟨k, hk, rfl, hm, hb⟩ := hrel
    have HM := Lib.hid hm
    have HB := Lib.hid hb
    clear hm hb
    by_cases hlt : k < ps.length
    · obtain ⟨b, off, rfl, _, hc, hc1⟩ := (H.out.below HB.out).at k hlt
      have hmr := m_right ps[k].name ps[k].free
      cases hi : inB 0 1000000 ps[k].free
      · have HN := Lib.hid (folk_amt hlt hi)
        go_wp2_with (go_at_call 80; refine (right_any _ _ _).mono ?_; rintro e w2 ⟨rfl, hb2⟩; rw [hi]; have HB2 := Lib.hid (below_trans HB.out (below_trans (below_new _ _) hb2)); clear hb2)
        go_ret
        exact ⟨by rw [HN.out]; rfl, HB2.out⟩
      · have HN := Lib.hid (HM.out.succ hlt hi)
        go_wp2_with (go_at_call 80; refine (right_any _ _ _).mono ?_; rintro e w2 ⟨rfl, hb2⟩; rw [hi]; have HB2 := Lib.hid (below_trans HB.out (below_trans (below_new _ _) hb2)); clear hb2)
        go_roundw
        case rel => exact ⟨k + 1, by omega, by go_num, HN.out, HB2.out⟩
        case measure => simp [intOf]; omega
    · obtain rfl : k = ps.length := by omega
      go_wp2_with fail
      refine (names_any _ (H.out.below HB.out) hl).mono ?_
      rintro e w2 ⟨rfl, hs2, hb2⟩
      have HS2 := Lib.hid hs2
      have HB2 := Lib.hid (below_trans HB.out hb2)
      clear hs2 hb2
      have HP := Lib.hid (len_pn ps)
      have hri : Calls Try.prog 58 #[.slice (some ⟨wr.heap.size, 0, none⟩) ps.length ps.length] w2 fun e w' => e = .returned (.bool (risesB (pnames ps))) ∧ w2 = w' := by
        have := iRises_any ps.length HS2.out (by rw [HP.out]; omega) HS.out
        rw [HP.out] at this
        exact this
      have HRI := Lib.hid hri
      clear hri
      go_wp2_with fail
      refine HRI.out.mono ?_
      rintro e w' ⟨rfl, rfl⟩
      cases hr : risesB (pnames ps)
      · have HN := Lib.hid (folk_rise hr)
        go_wp2
        go_ret
        exact ⟨by rw [HN.out]; rfl, HB2.out⟩
      · have HN := Lib.hid (folk_yes h8 HM.out hr)
        go_wp2
        go_ret
        exact ⟨by rw [HN.out]; rfl, HB2.out⟩

theorem iFolkOk_any {w : World} {a : Option Addr} {ps : List Pur} (cap : Nat) (h : Purs w a ps) (hl : ps.length ≤ 1048576) (hs : Sized (pnames ps)) :
    Calls Try.prog 38 #[.slice a ps.length cap] w fun e w' => e = .returned (.bool (folkB ps)) ∧ Below w.heap.size w w' := by
  go_enter Try.func38, Try.ntmps38
  go_wp2_with (go_at_call 54; refine (ok_any _ h hl hs).mono ?_; rintro e w2 ⟨rfl, hb2⟩)
  go_ret
  exact ⟨rfl, hb2⟩

theorem pcells_one : ∀ (ps : List Pur), ∀ v ∈ pcells ps, v.oneCell' = true
  | [], v, h => by simp [pcells] at h
  | p :: r, v, h => by
    simp only [pcells, List.mem_cons] at h
    rcases h with rfl | rfl | h
    · rfl
    · rfl
    · exact pcells_one r v h

theorem info_purse2 : (Try.prog.info? 44).map (fun i => (i.zero, i.size, i.bytes)) = some (some (.agg #[.string ByteArray.empty, .int .i64 0]), 2, 24) := by kernel_rfl
theorem size_purse : (Try.prog.info? 44).map (·.size) = some 2 := by kernel_rfl

set_option maxHeartbeats 1000000 in
set_option maxRecDepth 100000 in
theorem copied_any {w : World} {a : Option Addr} {ps : List Pur} (cap : Nat) (h : Purs w a ps) (hl : ps.length ≤ 1048576) :
    Calls Try.prog 20 #[.slice a ps.length cap] w fun e w' => e = .returned (.slice (some ⟨w.heap.size, 0, none⟩) ps.length ps.length) ∧ w' = w.alloc (.cells (pcells ps).toArray 44) := by
  have H := Lib.hid h
  clear h
  have hmk := run_make_many (P := Try.prog) 47 44 (.agg #[.string ByteArray.empty, .int .i64 0]) 2 24 Try.underlying47 info_purse2 .i64 .i64 ps.length (by omega) (by omega)
  have hcp := run_copy_new (P := Try.prog) w 47 47 3 44 2 ps.length ps.length a cap (madeCells #[.string ByteArray.empty, .int .i64 0] (ps.length * 2)) 44 (pcells ps) Try.underlying47 size_purse (by omega) (size_madeCells _ _) (pcells_length ps) H.out (pcells_one ps)
  go_enter Try.func20, Try.ntmps20
  go_wp2
  go_ret
  exact ⟨rfl, rfl⟩
end Go.Proofs.Ytbgklakhelcgcaa
