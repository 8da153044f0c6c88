/-
  Texts joined: FolkI, Order, FolkF.
-/
import Derived.Test.YtlnnchgaloejlaaGreatP1
import Derived.Test.YtlnnchgaloejlaaGreatP2
namespace Go.Proofs.YtlnnchgaloejlaaGreat
open Go.ChangeShapes Go.WideShapes Go.ChangeAt Go.RowKit

theorem info_strs : (Tryz.prog.info? 9).map (fun i => (i.zero, i.size, i.bytes)) = some (some (.string ByteArray.empty), 1, 16) := by kernel_rfl

theorem m_called (s : ByteArray) (n : Int) (w : World) : (method 320 41 (.agg #[.string s, .int .i64 n]) "loop.example/g00614/impl.called").run Tryz.prog w = .ok (205, .agg #[.string s, .int .i64 n]) w := by kernel_rfl
theorem m_right (s : ByteArray) (n : Int) (w : World) : (method 320 41 (.agg #[.string s, .int .i64 n]) "loop.example/g00614/impl.right").run Tryz.prog w = .ok (206, .agg #[.string s, .int .i64 n]) w := by kernel_rfl

/-- What 'names' leaves: the names, in the block behind all that was there. -/
def ToNames (ps : List Pur) (w : World) (e : Ending) (w' : World) : Prop :=
  e = .returned (.slice (some ⟨w.heap.size, 0, none⟩) ps.length ps.length) ∧ Strs w' (some ⟨w.heap.size, 0, none⟩) (pnames ps) ∧ Below w.heap.size w w'

set_option maxHeartbeats 1000000 in
set_option maxRecDepth 100000 in
theorem names_any {w : World} {a : Option Addr} {ps : List Pur} (cap : Nat) (h : Purs w a ps) (hl : ps.length ≤ 1048576) :
    Calls Tryz.prog 136 #[.slice a ps.length cap] w (ToNames ps w) := by
  have H := Lib.hid h
  clear h
  have hmk := run_make_row' (P := Tryz.prog) 86 9 (.string ByteArray.empty) 16 Tryz.underlying86 info_strs rfl .i64 .i64 ps.length (by omega) (by omega)
  go_enter Tryz.func136, Tryz.ntmps136
  go_wp2
  clear hmk
  go_loopw [11] (fun i w' => ∃ k : Nat, k ≤ ps.length ∧ i = .int .i64 k ∧ Room w ps.length ((pnames ps).map .string) k w') (fun i _ => ps.length - (intOf i).toNat)
  case atStart => exact ⟨0, Nat.zero_le _, rfl, Room.new _ _ _ _ _⟩
  case round =>
    obtain ⟨k, hk, rfl, hr⟩ := hrel
    by_cases hlt : k < ps.length
    · obtain ⟨b, off, rfl, hb, hc0, hc1⟩ := H.out.at k hlt
      have hc := (hr.low.cell (p := ⟨b, off + k * 2, none⟩) hb).trans hc0
      have hc' := (hr.low.cell (p := ⟨b, off + k * 2 + 1, none⟩) hb).trans hc1
      have hm := m_called ps[k].name ps[k].free
      obtain ⟨u, hu⟩ := hr.all k hlt
      have hf := hr.free k
      have hlo := hr.has
      have hle := hr.low.size
      have HR := Lib.hid (((hr.set (v := .string ps[k].name) hlt (by rw [List.getElem?_map, List.getElem?_eq_getElem (by rw [len_pn]; exact hlt)]; simp [pnames])).below (below_new _ (.cells #[.string ps[k].name, .int .i64 ps[k].free] 41))).below (below_new _ (.cells #[.string ps[k].name, .int .i64 ps[k].free] 41)))
      clear hr hc0 hc1
      go_wp2
      go_roundw
      case rel => exact ⟨k + 1, by omega, by go_num, HR.out⟩
      case measure => simp [intOf]; omega
    · obtain rfl : k = ps.length := by omega
      have HR := Lib.hid hr
      clear hr
      go_wp2
      go_ret
      exact ⟨rfl, HR.out.lies (by simp [pnames]), HR.out.low⟩

set_option maxHeartbeats 1000000 in
set_option maxRecDepth 100000 in
theorem right_any (s : ByteArray) (n : Int) (w : World) :
    Calls Tryz.prog 206 #[.agg #[.string s, .int .i64 n]] w fun e w' => e = .returned (.bool (inB 0 1000000 n)) ∧ Below w.heap.size w w' := by
  go_enter Tryz.func206, Tryz.ntmps206
  go_wp2_with (go_at_call 22; refine (iAmountOk_any _ _).mono ?_; rintro e w' ⟨rfl, rfl⟩)
  go_ret
  exact ⟨rfl, below_new _ _⟩

set_option maxHeartbeats 1000000 in
set_option maxRecDepth 100000 in
theorem ok_any {w : World} {a : Option Addr} {ps : List Pur} (cap : Nat) (h : Purs w a ps) (hl : ps.length ≤ 1048576) (hs : Sized (pnames ps)) :
    Calls Tryz.prog 96 #[.slice a ps.length cap, .int .i64 8] w fun e w' => e = .returned (.bool (folkB ps)) ∧ Below w.heap.size w w' := by
  have H := Lib.hid h
  have HS := Lib.hid hs
  clear h hs
  by_cases h8 : ps.length ≤ 8
  case neg =>
    have HN := Lib.hid (folk_long h8)
    have hd : decide ((8 : Int) < (ps.length : Int)) = true := by simp; omega
    go_enter Tryz.func96, Tryz.ntmps96
    go_wp2
    go_ret
    exact ⟨by rw [HN.out]; rfl, Below.refl _ _⟩
  have hd : decide ((8 : Int) < (ps.length : Int)) = false := by simp; omega
  go_enter Tryz.func96, Tryz.ntmps96
  go_wp2
  go_loopw [13] (fun i w' => ∃ k : Nat, k ≤ ps.length ∧ i = .int .i64 k ∧ Amts ps k ∧ Below w.heap.size w w') (fun i _ => ps.length - (intOf i).toNat)
  case atStart => exact ⟨0, Nat.zero_le _, rfl, Amts.zero _, Below.refl _ _⟩
  case round =>
    obtain ⟨k, hk, rfl, hm, hb⟩ := hrel
    have HM := Lib.hid hm
    have HB := Lib.hid hb
    clear hm hb
    by_cases hlt : k < ps.length
    · obtain ⟨b, off, rfl, _, hc, hc1⟩ := (H.out.below HB.out).at k hlt
      have hmr := m_right ps[k].name ps[k].free
      cases hi : inB 0 1000000 ps[k].free
      · have HN := Lib.hid (folk_amt hlt hi)
        go_wp2_with (go_at_call 206; refine (right_any _ _ _).mono ?_; rintro e w2 ⟨rfl, hb2⟩; rw [hi]; have HB2 := Lib.hid (below_trans HB.out (below_trans (below_new _ _) hb2)); clear hb2)
        go_ret
        exact ⟨by rw [HN.out]; rfl, HB2.out⟩
      · have HN := Lib.hid (HM.out.succ hlt hi)
        go_wp2_with (go_at_call 206; refine (right_any _ _ _).mono ?_; rintro e w2 ⟨rfl, hb2⟩; rw [hi]; have HB2 := Lib.hid (below_trans HB.out (below_trans (below_new _ _) hb2)); clear hb2)
        go_roundw
        case rel => exact ⟨k + 1, by omega, by go_num, HN.out, HB2.out⟩
        case measure => simp [intOf]; omega
    · obtain rfl : k = ps.length := by omega
      go_wp2_with fail
      refine (names_any _ (H.out.below HB.out) hl).mono ?_
      rintro e w2 ⟨rfl, hs2, hb2⟩
      have HS2 := Lib.hid hs2
      have HB2 := Lib.hid (below_trans HB.out hb2)
      clear hs2 hb2
      have HP := Lib.hid (len_pn ps)
      have hri : Calls Tryz.prog 135 #[.slice (some ⟨wr.heap.size, 0, none⟩) ps.length ps.length] w2 fun e w' => e = .returned (.bool (risesB (pnames ps))) ∧ w2 = w' := by
        have := iRises_any ps.length HS2.out (by rw [HP.out]; omega) HS.out
        rw [HP.out] at this
        exact this
      have HRI := Lib.hid hri
      clear hri
      go_wp2_with fail
      refine HRI.out.mono ?_
      rintro e w' ⟨rfl, rfl⟩
      cases hr : risesB (pnames ps)
      · have HN := Lib.hid (folk_rise hr)
        go_wp2
        go_ret
        exact ⟨by rw [HN.out]; rfl, HB2.out⟩
      · have HN := Lib.hid (folk_yes h8 HM.out hr)
        go_wp2
        go_ret
        exact ⟨by rw [HN.out]; rfl, HB2.out⟩

theorem iFolkOk_any {w : World} {a : Option Addr} {ps : List Pur} (cap : Nat) (h : Purs w a ps) (hl : ps.length ≤ 1048576) (hs : Sized (pnames ps)) :
    Calls Tryz.prog 58 #[.slice a ps.length cap] w fun e w' => e = .returned (.bool (folkB ps)) ∧ Below w.heap.size w w' := by
  go_enter Tryz.func58, Tryz.ntmps58
  go_wp2_with (go_at_call 96; refine (ok_any _ h hl hs).mono ?_; rintro e w2 ⟨rfl, hb2⟩)
  go_ret
  exact ⟨rfl, hb2⟩

theorem place_any {w : World} {a : Option Addr} {ps : List Pur} (cap : Nat) (s : ByteArray) (h : Purs w a ps) (hl : ps.length ≤ 1048576) :
    Calls Tryz.prog 106 #[.slice a ps.length cap, .string s] w fun e w' => e = .returned (.int .i64 (placeV (pnames ps) s)) ∧ Below w.heap.size w w' := by
  have H := Lib.hid h
  clear h
  go_enter Tryz.func106, Tryz.ntmps106
  go_wp2_with fail
  refine (names_any _ H.out hl).mono ?_
  rintro e w2 ⟨rfl, hs2, hb2⟩
  have HB2 := Lib.hid hb2
  have HP := Lib.hid (len_pn ps)
  have hri : Calls Tryz.prog 142 #[.slice (some ⟨w.heap.size, 0, none⟩) ps.length ps.length, .string s] w2 fun e w' => e = .returned (.int .i64 (placeV (pnames ps) s)) ∧ w2 = w' := by
    have := iPlaceIn_any ps.length s hs2 (by rw [HP.out]; omega)
    rw [HP.out] at this
    exact this
  have HRI := Lib.hid hri
  clear hri hs2 hb2
  go_wp2_with fail
  refine HRI.out.mono ?_
  rintro e w' ⟨rfl, rfl⟩
  go_wp2
  go_ret
  exact ⟨rfl, HB2.out⟩

theorem pcells_one : ∀ (ps : List Pur), ∀ v ∈ pcells ps, v.oneCell' = true
  | [], v, h => by simp [pcells] at h
  | p :: r, v, h => by
    simp only [pcells, List.mem_cons] at h
    rcases h with rfl | rfl | h
    · rfl
    · rfl
    · exact pcells_one r v h

theorem info_purse2 : (Tryz.prog.info? 41).map (fun i => (i.zero, i.size, i.bytes)) = some (some (.agg #[.string ByteArray.empty, .int .i64 0]), 2, 24) := by kernel_rfl
theorem size_purse : (Tryz.prog.info? 41).map (·.size) = some 2 := by kernel_rfl

set_option maxHeartbeats 1000000 in
set_option maxRecDepth 100000 in
theorem copied_any {w : World} {a : Option Addr} {ps : List Pur} (cap : Nat) (h : Purs w a ps) (hl : ps.length ≤ 1048576) :
    Calls Tryz.prog 23 #[.slice a ps.length cap] w fun e w' => e = .returned (.slice (some ⟨w.heap.size, 0, none⟩) ps.length ps.length) ∧ w' = w.alloc (.cells (pcells ps).toArray 41) := by
  have H := Lib.hid h
  clear h
  have hmk := run_make_many (P := Tryz.prog) 47 41 (.agg #[.string ByteArray.empty, .int .i64 0]) 2 24 Tryz.underlying47 info_purse2 .i64 .i64 ps.length (by omega) (by omega)
  have hcp := run_copy_new (P := Tryz.prog) w 47 47 3 41 2 ps.length ps.length a cap (madeCells #[.string ByteArray.empty, .int .i64 0] (ps.length * 2)) 41 (pcells ps) Tryz.underlying47 size_purse (by omega) (size_madeCells _ _) (pcells_length ps) H.out (pcells_one ps)
  go_enter Tryz.func23, Tryz.ntmps23
  go_wp2
  go_ret
  exact ⟨rfl, rfl⟩
end Go.Proofs.YtlnnchgaloejlaaGreat
namespace Go.Proofs.YtlnnchgaloejlaaGreat
open Go.ChangeShapes Go.WideShapes Go.ChangeAt Go.RowKit

theorem bytesLess_lt : ∀ (x y : List UInt8), Op.bytesLess x y = decide (x < y)
  | [], [] => by simp [Op.bytesLess]
  | _ :: _, [] => by simp [Op.bytesLess]
  | [], _ :: _ => by simp [Op.bytesLess]
  | a :: x, b :: y => by
    rw [Op.bytesLess, bytesLess_lt x y, Bool.eq_iff_iff]
    simp only [List.cons_lt_cons_iff, Bool.or_eq_true, Bool.and_eq_true, decide_eq_true_eq, beq_iff_eq]
theorem less_of {a b : ByteArray} (h : leqB b a = false) : a.toList < b.toList := by
  simp only [leqB, bytesLess_lt, Bool.or_eq_false_iff, decide_eq_false_iff_not, beq_eq_false_iff_ne] at h
  have h1 : a.toList ≤ b.toList := List.not_lt.1 h.1
  by_cases h2 : a.toList < b.toList
  · exact h2
  · exact absurd (List.le_antisymm (List.not_lt.1 h2) h1) h.2

theorem Up.less {ss : List ByteArray} {n : Nat} (h : Up ss n) {j : Nat} : ∀ m, j + 1 + m < n → (sat ss j).toList < (sat ss (j + 1 + m)).toList
  | 0, hm => less_of (h.2 j (by omega))
  | m + 1, hm => List.lt_trans (h.less m (by omega)) (less_of (h.2 (j + 1 + m) (by omega)))
theorem Up.ne {ss : List ByteArray} {n j k : Nat} (h : Up ss n) (hjk : j < k) (hk : k < n) : ((sat ss j).toList == (sat ss k).toList) = false := by
  have hl := h.less (j := j) (k - (j + 1)) (by omega)
  rw [show j + 1 + (k - (j + 1)) = k by omega] at hl
  rw [beq_eq_false_iff_ne]
  intro e
  rw [e] at hl
  exact List.lt_irrefl _ hl
/-- Of names that rise each is where it is. -/
theorem place_self {ss : List ByteArray} (h : risesB ss = true) {k : Nat} (hk : k < ss.length) : placeV ss (sat ss k) = k :=
  place_in hk (fun j hj => (rises_true h).ne hj hk) (by simp)
theorem rises_name {ss : List ByteArray} (h : risesB ss = true) {k : Nat} (hk : k < ss.length) : nameB (sat ss k) = true := (rises_true h).1 k hk

theorem placeUp_hit {ss : List ByteArray} {s : ByteArray} : ∀ {n : Nat}, 0 ≤ placeUp ss s n → ∃ k : Nat, placeUp ss s n = (k : Int) ∧ k < n ∧ ((sat ss k).toList == s.toList) = true
  | 0, h => by simp [placeUp] at h
  | n + 1, h => by
    rw [placeUp] at h ⊢
    by_cases h1 : placeUp ss s n = -1
    · rw [if_pos h1] at h ⊢
      cases h2 : ((sat ss n).toList == s.toList)
      · rw [h2] at h; simp at h
      · exact ⟨n, by simp, by omega, h2⟩
    · rw [if_neg h1] at h ⊢
      obtain ⟨k, e, hk, hq⟩ := placeUp_hit (n := n) h
      exact ⟨k, e, by omega, hq⟩
theorem place_hit {ss : List ByteArray} {s : ByteArray} (h : 0 ≤ placeV ss s) : ∃ k : Nat, placeV ss s = (k : Int) ∧ k < ss.length ∧ ((sat ss k).toList == s.toList) = true := placeUp_hit h
end Go.Proofs.YtlnnchgaloejlaaGreat
namespace Go.Proofs.YtlnnchgaloejlaaGreat
open Go.ChangeShapes Go.WideShapes Go.ChangeAt Go.RowKit

/-- Free of the one of that number. -/
def pfree (ps : List Pur) (k : Nat) : Int := (ps[k]?.map Pur.free).getD 0
theorem pfree_eq {ps : List Pur} {k : Nat} (h : k < ps.length) : pfree ps k = ps[k].free := by simp [pfree, h]
/-- Free of that one; -1 where there is none. -/
def freeOfV (ps : List Pur) (s : ByteArray) : Int := if folkB ps = true ∧ 0 ≤ placeV (pnames ps) s then pfree ps (placeV (pnames ps) s).toNat else -1
theorem freeOf_no {ps : List Pur} {s : ByteArray} (h : folkB ps = false) : freeOfV ps s = -1 := by simp [freeOfV, h]
theorem freeOf_out {ps : List Pur} {s : ByteArray} (h : ¬ 0 ≤ placeV (pnames ps) s) : freeOfV ps s = -1 := by simp [freeOfV, h]
theorem freeOf_in {ps : List Pur} {s : ByteArray} {k : Nat} (h : folkB ps = true) (e : placeV (pnames ps) s = k) (hk : k < ps.length) : freeOfV ps s = ps[k].free := by
  rw [freeOfV, if_pos ⟨h, by omega⟩, e]; exact pfree_eq hk
theorem place_lo (ss : List ByteArray) (s : ByteArray) : -1 ≤ placeV ss s := (placeUp_bd ss s ss.length).1

set_option maxHeartbeats 1000000 in
set_option maxRecDepth 100000 in
theorem iFreeOf_any {w : World} {a : Option Addr} {ps : List Pur} (cap : Nat) (s : ByteArray) (h : Purs w a ps) (hl : ps.length ≤ 1048576) (hs : Sized (pnames ps)) :
    Calls Tryz.prog 76 #[.slice a ps.length cap, .string s] w fun e w' => e = .returned (.int .i64 (freeOfV ps s)) ∧ Below w.heap.size w w' := by
  have H := Lib.hid h
  have HS := Lib.hid hs
  clear h hs
  go_enter Tryz.func76, Tryz.ntmps76
  go_wp2_with fail
  refine (iFolkOk_any _ H.out hl HS.out).mono ?_
  rintro e w1 ⟨rfl, hb1⟩
  have HB1 := Lib.hid hb1
  clear hb1
  cases hf : folkB ps
  · have HN := Lib.hid (freeOf_no (s := s) hf)
    go_wp2
    go_ret
    exact ⟨by rw [HN.out]; rfl, HB1.out⟩
  · go_wp2_with fail
    refine (place_any _ _ (H.out.below HB1.out) hl).mono ?_
    rintro e w2 ⟨rfl, hb2⟩
    have HB2 := Lib.hid (below_trans HB1.out hb2)
    clear hb2
    by_cases hp : 0 ≤ placeV (pnames ps) s
    · obtain ⟨k, e, hk, hq⟩ := place_hit hp
      have hk' : k < ps.length := by rw [len_pn] at hk; exact hk
      have HN := Lib.hid (freeOf_in hf e hk')
      rw [e]
      obtain ⟨b, off, rfl, _, hc, hc1⟩ := (H.out.below HB2.out).at k hk'
      clear hp e hk hq
      go_wp2
      go_ret
      exact ⟨by rw [HN.out]; rfl, HB2.out⟩
    · have HN := Lib.hid (freeOf_out hp)
      have hlo := place_lo (pnames ps) s
      have hpe : placeV (pnames ps) s = -1 := by omega
      rw [hpe]
      clear hp hpe hlo
      go_wp2
      go_ret
      exact ⟨by rw [HN.out]; rfl, HB2.out⟩

/-- All Free of the first k, together. -/
def sumP (ps : List Pur) : Nat → Int
  | 0 => 0
  | k + 1 => sumP ps k + pfree ps k
/-- All Free together; -1 where they are no folk. -/
def freeInV (ps : List Pur) : Int := if folkB ps then sumP ps ps.length else -1
theorem inB_bd {n : Int} (h : inB 0 1000000 n = true) : 0 ≤ n ∧ n ≤ 1000000 := by
  simp [inB] at h; omega
theorem sumP_bd {ps : List Pur} (h : Amts ps ps.length) : ∀ k, k ≤ ps.length → 0 ≤ sumP ps k ∧ sumP ps k ≤ 1000000 * k
  | 0, _ => by simp [sumP]
  | k + 1, hk => by
    have h1 := sumP_bd h k (by omega)
    have h2 := inB_bd (h k (by omega) (by omega))
    have h3 := pfree_eq (ps := ps) (k := k) (by omega)
    simp only [sumP, h3]
    omega

set_option maxHeartbeats 1000000 in
set_option maxRecDepth 100000 in
theorem l3Free_any {w : World} {a : Option Addr} {ps : List Pur} (cap : Nat) (h : Purs w a ps) (hf : folkB ps = true) :
    Calls Tryz.prog 48 #[.slice a ps.length cap] w fun e w' => e = .returned (.int .i64 (sumP ps ps.length)) ∧ w = w' := by
  obtain ⟨h8, hm, -⟩ := folk_true hf
  have H := Lib.hid h
  have HM := Lib.hid hm
  clear h hm hf
  go_enter Tryz.func48, Tryz.ntmps48
  go_wp2
  go_loop [3, 4] (fun t i => ∃ k : Nat, k ≤ ps.length ∧ i = .int .i64 k ∧ t = .int .i64 (sumP ps k)) (fun _ i => ps.length - (intOf i).toNat)
  case atStart => exact ⟨0, Nat.zero_le _, rfl, rfl⟩
  case round =>
    obtain ⟨k, hk, rfl, rfl⟩ := hrel
    have hb := sumP_bd HM.out k hk
    by_cases hlt : k < ps.length
    · obtain ⟨b, off, rfl, _, hc, hc1⟩ := H.out.at k hlt
      have hb2 := sumP_bd HM.out (k + 1) (by omega)
      have HN := Lib.hid (show sumP ps (k + 1) = sumP ps k + ps[k].free by simp only [sumP, pfree_eq hlt])
      have hb3 := inB_bd (HM.out k hlt hlt)
      clear hb2
      go_wp2
      go_round
      case rel => exact ⟨k + 1, by omega, by go_num, by rw [HN.out]⟩
      case measure => simp [intOf]; omega
    · obtain rfl : k = ps.length := by omega
      go_wp2
      go_ret
      exact ⟨rfl, rfl⟩

set_option maxHeartbeats 1000000 in
set_option maxRecDepth 100000 in
theorem sFreeIn_any {w : World} {a : Option Addr} {ps : List Pur} (cap : Nat) (h : Purs w a ps) (hl : ps.length ≤ 1048576) (hs : Sized (pnames ps)) :
    Calls Tryz.prog 16 #[.slice a ps.length cap] w fun e w' => e = .returned (.int .i64 (freeInV ps)) ∧ ∃ n, w' = w.drewN n := by
  have H := Lib.hid h
  have HS := Lib.hid hs
  clear h hs
  go_enter Tryz.func16, Tryz.ntmps16
  go_wp2_with fail
  refine (sFolkOk_any _ H.out (by omega) HS.out).mono ?_
  rintro e w1 ⟨rfl, n1, rfl⟩
  cases hf : folkB ps
  · have HN := Lib.hid (show freeInV ps = -1 by simp [freeInV, hf])
    go_wp2
    go_ret
    exact ⟨by rw [HN.out]; rfl, _, rfl⟩
  · have HN := Lib.hid (show freeInV ps = sumP ps ps.length by simp [freeInV, hf])
    have HF := Lib.hid hf
    clear hf
    go_wp2_with fail
    refine (l3Free_any _ (show Purs (w.drewN n1) a ps from H.out) HF.out).mono ?_
    rintro e w' ⟨rfl, rfl⟩
    go_wp2
    go_ret
    exact ⟨by rw [HN.out]; rfl, _, rfl⟩

set_option maxHeartbeats 1000000 in
set_option maxRecDepth 100000 in
theorem iFreeIn_any {w : World} {a : Option Addr} {ps : List Pur} (cap : Nat) (h : Purs w a ps) (hl : ps.length ≤ 1048576) (hs : Sized (pnames ps)) :
    Calls Tryz.prog 21 #[.slice a ps.length cap] w fun e w' => e = .returned (.int .i64 (freeInV ps)) ∧ Below w.heap.size w w' := by
  have H := Lib.hid h
  have HS := Lib.hid hs
  clear h hs
  go_enter Tryz.func21, Tryz.ntmps21
  go_wp2_with fail
  refine (iFolkOk_any _ H.out hl HS.out).mono ?_
  rintro e w1 ⟨rfl, hb1⟩
  have HB1 := Lib.hid hb1
  clear hb1
  cases hf : folkB ps
  · have HN := Lib.hid (show freeInV ps = -1 by simp [freeInV, hf])
    go_wp2
    go_ret
    exact ⟨by rw [HN.out]; rfl, HB1.out⟩
  · have HN := Lib.hid (show freeInV ps = sumP ps ps.length by simp [freeInV, hf])
    obtain ⟨h8, hm, -⟩ := folk_true hf
    have HM := Lib.hid hm
    clear hm hf
    go_wp2
    go_loopw [3, 11] (fun t i w' => ∃ k : Nat, k ≤ ps.length ∧ i = .int .i64 k ∧ t = .int .i64 (sumP ps k) ∧ Below w.heap.size w w') (fun _ i _ => ps.length - (intOf i).toNat)
    case atStart => exact ⟨0, Nat.zero_le _, rfl, rfl, HB1.out⟩
    case round =>
      obtain ⟨k, hk, rfl, rfl, hb⟩ := hrel
      have HB := Lib.hid hb
      clear hb
      have hb := sumP_bd HM.out k hk
      by_cases hlt : k < ps.length
      · obtain ⟨b, off, rfl, _, hc, hc1⟩ := (H.out.below HB.out).at k hlt
        have HN := Lib.hid (show sumP ps (k + 1) = sumP ps k + ps[k].free by simp only [sumP, pfree_eq hlt])
        have hb3 := inB_bd (HM.out k hlt hlt)
        go_wp2
        go_roundw
        case rel => exact ⟨k + 1, by omega, by go_num, by rw [HN.out], HB.out.alloc HB.out.size _⟩
        case measure => simp [intOf]; omega
      · obtain rfl : k = ps.length := by omega
        go_wp2
        go_ret
        exact ⟨by rw [HN.out]; rfl, HB.out⟩
end Go.Proofs.YtlnnchgaloejlaaGreat
