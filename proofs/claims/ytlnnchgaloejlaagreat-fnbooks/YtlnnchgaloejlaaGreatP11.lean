/-
  Texts joined: Facts4, PartW, WaitW, BookW, FactsB.
-/
import Derived.Test.YtlnnchgaloejlaaGreatP7
import Derived.Test.YtlnnchgaloejlaaGreatP8
import Derived.Test.YtlnnchgaloejlaaGreatP9
import Derived.Test.YtlnnchgaloejlaaGreatP10
import Derived.Deep.AppendLies
namespace Go.Proofs.YtlnnchgaloejlaaGreat
open Go.ChangeShapes Go.WideShapes Go.ChangeAt Go.RowKit

theorem okD_of_bd {a b c : Int} (h1 : 0 ≤ a) (h2 : a ≤ 1000000000) (h3 : 0 ≤ b) (h4 : b ≤ 1000000000) (h5 : 1 ≤ c) (h6 : c ≤ 1000000000) : okD a b c = true := by
  simp only [okD, Bool.and_eq_true]
  exact ⟨inB_of h1 h2, inB_of h3 h4, inB_of h5 h6⟩
theorem downV_eq {a b c : Int} (h1 : 0 ≤ a) (h2 : a ≤ 1000000000) (h3 : 0 ≤ b) (h4 : b ≤ 1000000000) (h5 : 1 ≤ c) (h6 : c ≤ 1000000000) : downV a b c = a * b / c := by
  rw [downV, if_pos (okD_of_bd h1 h2 h3 h4 h5 h6)]
/-- Down, by c again, is no more than what is exact, and c more is more. -/
theorem floor_bd {p c : Int} (h : 1 ≤ c) : p / c * c ≤ p ∧ p < (p / c + 1) * c := by
  have h1 := Int.mul_ediv_add_emod p c
  have h2 := Int.emod_nonneg p (show c ≠ 0 by omega)
  have h3 := Int.emod_lt_of_pos p (show 0 < c by omega)
  have h4 : c * (p / c) = p / c * c := Int.mul_comm _ _
  rw [Int.add_mul, Int.one_mul]
  omega
theorem worth_neg {m : Mil} {n : Int} (h : worthV m n < 0) : worthV m n = -1 := by
  unfold worthV at h ⊢
  split at h
  · rename_i hb
    rw [if_pos hb]
    simp only [Bool.and_eq_true] at hb
    obtain ⟨hm, hn⟩ := hb
    have hp := millB_parts hm
    have hn' := inB_true hn
    split at h
    · omega
    · rename_i hz
      rw [downV_eq (by omega) (by omega) (by omega) (by omega) (by omega) (by omega)] at h
      have := Int.ediv_nonneg (Int.mul_nonneg (show 0 ≤ n by omega) (show 0 ≤ m.stake by omega)) (show 0 ≤ m.shares by omega)
      omega
  · rename_i hb
    rw [if_neg hb]
theorem worth_ok {m : Mil} {n : Int} (h : ¬ worthV m n < 0) : millB m = true ∧ 0 ≤ n ∧ n ≤ m.shares := by
  unfold worthV at h
  split at h
  · rename_i hb
    simp only [Bool.and_eq_true] at hb
    have := inB_true hb.2
    exact ⟨hb.1, by omega, by omega⟩
  · omega
/-- So much it is, where there are shares. -/
theorem worth_eq {m : Mil} {n : Int} (hm : millB m = true) (h0 : 0 ≤ n) (h1 : n ≤ m.shares) : worthV m n = if m.shares = 0 then 0 else n * m.stake / m.shares := by
  have hp := millB_parts hm
  rw [worthV, if_pos (by rw [hm, inB_of h0 h1]; rfl)]
  split
  · rfl
  · exact downV_eq (by omega) (by omega) (by omega) (by omega) (by omega) (by omega)

/-- All shares are worth the stake; parts of them no more than that together; what is left is no cheaper. -/
theorem worth_facts {m : Mil} {n : Int} (h : ¬ worthV m n < 0) :
    0 ≤ worthV m n ∧ worthV m n ≤ m.stake ∧ worthV m m.shares = m.stake ∧ worthV m n + worthV m (m.shares - n) ≤ m.stake ∧ 0 ≤ worthV m (m.shares - n) ∧
    ∀ (s : ByteArray) (c : Int) (b : Bool), cheapB ⟨s, m.stake - worthV m n, m.shares - n, c, b⟩ m = false := by
  obtain ⟨hm, h0, h1⟩ := worth_ok h
  have hp := millB_parts hm
  rw [worth_eq hm h0 h1, worth_eq hm (show 0 ≤ m.shares by omega) (Int.le_refl _), worth_eq hm (show 0 ≤ m.shares - n by omega) (by omega)]
  by_cases hz : m.shares = 0
  · rw [if_pos hz, if_pos hz, if_pos hz]
    refine ⟨by omega, by omega, by omega, by omega, by omega, fun s c b => ?_⟩
    simp [cheapB, hz]
  · rw [if_neg hz, if_neg hz, if_neg hz]
    have hS : 1 ≤ m.shares := by omega
    have f1 := floor_bd (p := n * m.stake) hS
    have f2 := floor_bd (p := (m.shares - n) * m.stake) hS
    have e1 : (m.shares - n) * m.stake = m.shares * m.stake - n * m.stake := Int.sub_mul _ _ _
    have e2 : m.shares * m.stake / m.shares = m.stake := Int.mul_ediv_cancel_left _ hz
    have hn0 : 0 ≤ n * m.stake := Int.mul_nonneg h0 (by omega)
    have hn1 : 0 ≤ (m.shares - n) * m.stake := Int.mul_nonneg (by omega) (by omega)
    have hw0 : 0 ≤ n * m.stake / m.shares := Int.ediv_nonneg hn0 (by omega)
    have hw1 : 0 ≤ (m.shares - n) * m.stake / m.shares := Int.ediv_nonneg hn1 (by omega)
    have hsum : n * m.stake / m.shares + (m.shares - n) * m.stake / m.shares ≤ m.stake := by
      have hlt : (n * m.stake / m.shares + (m.shares - n) * m.stake / m.shares) * m.shares ≤ m.stake * m.shares := by
        rw [Int.add_mul]
        have : m.stake * m.shares = m.shares * m.stake := Int.mul_comm _ _
        omega
      exact Int.le_of_mul_le_mul_right hlt (by omega)
    refine ⟨hw0, by omega, e2, hsum, hw1, fun s c b => ?_⟩
    have hnot : ¬ (m.stake - n * m.stake / m.shares) * m.shares < m.stake * (m.shares - n) := by
      rw [Int.sub_mul, Int.mul_sub]
      have : m.stake * n = n * m.stake := Int.mul_comm _ _
      omega
    simp [cheapB, hnot]

end Go.Proofs.YtlnnchgaloejlaaGreat
namespace Go.Proofs.YtlnnchgaloejlaaGreat
open Go.ChangeShapes Go.WideShapes Go.ChangeAt Go.RowKit

/-- All parts of that one. -/
def ofWho (who : ByteArray) (ps : List Par) : List Par := ps.filter fun p => p.who.toList == who.toList
noncomputable def partsForV (ps : List Par) (who : ByteArray) : List Par := if partsB ps = true then ofWho who ps else []
theorem ofWho_yes {ps : List Par} {who : ByteArray} {k : Nat} (h : k < ps.length) (hq : (ps[k].who.toList == who.toList) = true) : ofWho who (ps.take (k + 1)) = ofWho who (ps.take k) ++ [ps[k]] := by
  unfold ofWho
  rw [List.take_succ_eq_append_getElem h, List.filter_append, List.filter_cons, if_pos hq, List.filter_nil]
theorem ofWho_no {ps : List Par} {who : ByteArray} {k : Nat} (h : k < ps.length) (hq : (ps[k].who.toList == who.toList) = false) : ofWho who (ps.take (k + 1)) = ofWho who (ps.take k) := by
  unfold ofWho
  rw [List.take_succ_eq_append_getElem h, List.filter_append, List.filter_cons, if_neg (by rw [hq]; decide), List.filter_nil, List.append_nil]
theorem ofWho_le (who : ByteArray) (ps : List Par) : (ofWho who ps).length ≤ ps.length := List.length_filter_le _ _

end Go.Proofs.YtlnnchgaloejlaaGreat
namespace Go.Proofs.YtlnnchgaloejlaaGreat
open Go.ChangeShapes Go.WideShapes Go.ChangeAt Go.RowKit

/-- A copy of the call's own. -/
def CopyW (ps : List Wai) (w : World) (e : Ending) (w' : World) : Prop :=
  ∃ b cap, e = .returned (.slice (some ⟨b, 0, none⟩) ps.length cap) ∧ OwnR Wai.cs 4 w' w.heap.size (some ⟨b, 0, none⟩) ps ∧ w'.ownsRow w.heap.size 74 4 (.slice (some ⟨b, 0, none⟩) ps.length cap) ps.length (ps.flatMap Wai.cs) ∧ Below w.heap.size w w'

set_option maxHeartbeats 1000000 in
set_option maxRecDepth 100000 in
theorem l6Copy_any {w : World} {b off : Nat} {ps : List Wai} (cap : Nat) (h : Recs Wai.cs w (some ⟨b, off, none⟩) ps) (hl : ps.length ≤ 1048576) :
    Calls Tryz.prog 134 #[.slice (some ⟨b, off, none⟩) ps.length cap] w (CopyW ps w) := by
  have H := Lib.hid h
  clear h
  obtain ⟨i0, hi, hz0, hz1, hz2⟩ := info_parts info_Wait
  have HI := Lib.hid hi
  have HZ0 := Lib.hid hz0
  have HZ1 := Lib.hid hz1
  have HZ2 := Lib.hid hz2
  clear hi hz0 hz1 hz2
  go_enter Tryz.func134, Tryz.ntmps134
  go_wp2_with (at_builtin; refine wpList_append_own_at _ rfl _ _ 27 rfl w.heap.size 74 i0 (.agg #[.string ByteArray.empty, .string ByteArray.empty, .int .i64 0, .int .i64 0]) 4 48 Tryz.underlying27 HI.out HZ0.out HZ1.out HZ2.out rfl (by decide) (.slice (some ⟨w.heap.size, 0, none⟩) 0 0) 0 [] rfl ?c0 ⟨b, off, none⟩ ps.length cap (ps.flatMap Wai.cs) rfl (flat_length Wai.len ps) ?c1 (flat_one Wai.one ps) ?c2 ?c3 ?c4 ?_)
  case c0 => exact ⟨by simp, .inr ⟨w.heap.size, 0, #[], rfl, Nat.le_refl _, heap_alloc_new _ _, Nat.le_refl _, Nat.zero_le _, by simp, by simp⟩⟩
  case c1 =>
    intro j u hj
    obtain ⟨b', off', e, hc⟩ := (Lies.below H.out (below_new w (.cells #[] 74))) j u hj
    injection e with e; injection e with e1 e2; subst e1; subst e2
    rw [add_plain]; exact hc
  case c2 => unfold maxLen; omega
  case c3 => omega
  case c4 => simp
  intro v' w' hown hgrow hnil hat
  have HR : Hid (CopyW ps w (.returned v') w') := by
    obtain ⟨a', cap', rfl, ho, hq⟩ := ownR_of Wai.len hown
    rcases hq with hq | ⟨g, rfl⟩
    · exact absurd hq hnil
    · exact ⟨g, cap', rfl, ho, hown, bgrown (below_new w (.cells #[] 74)) (by simp) hgrow (own_at0 w.heap.size)⟩
  clear hown hgrow hnil hat
  go_wp2
  go_ret
  exact HR.out

/-- A list of the call's own comes back. -/
def ResW (xs : List Wai) (w : World) (e : Ending) (w' : World) : Prop :=
  ∃ a cap, e = .returned (.slice a xs.length cap) ∧ OwnR Wai.cs 4 w' w.heap.size a xs ∧ Below w.heap.size w w'
/-- All parts of that one. -/
def ofWhoW (who : ByteArray) (ps : List Wai) : List Wai := ps.filter fun p => p.who.toList == who.toList
noncomputable def waitsForV (ps : List Wai) (who : ByteArray) : List Wai := if waitsB ps = true then ofWhoW who ps else []
theorem ofWhoW_yes {ps : List Wai} {who : ByteArray} {k : Nat} (h : k < ps.length) (hq : (ps[k].who.toList == who.toList) = true) : ofWhoW who (ps.take (k + 1)) = ofWhoW who (ps.take k) ++ [ps[k]] := by
  unfold ofWhoW
  rw [List.take_succ_eq_append_getElem h, List.filter_append, List.filter_cons, if_pos hq, List.filter_nil]
theorem ofWhoW_no {ps : List Wai} {who : ByteArray} {k : Nat} (h : k < ps.length) (hq : (ps[k].who.toList == who.toList) = false) : ofWhoW who (ps.take (k + 1)) = ofWhoW who (ps.take k) := by
  unfold ofWhoW
  rw [List.take_succ_eq_append_getElem h, List.filter_append, List.filter_cons, if_neg (by rw [hq]; decide), List.filter_nil, List.append_nil]
theorem ofWhoW_le (who : ByteArray) (ps : List Wai) : (ofWhoW who ps).length ≤ ps.length := List.length_filter_le _ _

/-- The loop's word. -/
def ForRelW (w : World) (ps : List Wai) (who : ByteArray) (v i : Value) (wr : World) : Prop :=
  ∃ k : Nat, k ≤ ps.length ∧ i = .int .i64 k ∧ wr.ownsRow w.heap.size 74 4 v (ofWhoW who (ps.take k)).length ((ofWhoW who (ps.take k)).flatMap Wai.cs) ∧ Below w.heap.size w wr ∧ (k = 0 ∨ waitsB ps = true)

end Go.Proofs.YtlnnchgaloejlaaGreat
namespace Go.Proofs.YtlnnchgaloejlaaGreat
open Go.ChangeShapes Go.WideShapes Go.ChangeAt Go.RowKit

/-- What these parts are worth, each alone. -/
def PS (ms : List Mil) (xs : List Par) : Int := (xs.map fun p => worthV (millInV ms p.mill) p.shares).sum
/-- What these have that wait. -/
def WS (xs : List Wai) : Int := (xs.map Wai.amount).sum
theorem PS_more (ms : List Mil) (xs : List Par) (p : Par) : PS ms (xs ++ [p]) = PS ms xs + worthV (millInV ms p.mill) p.shares := by
  unfold PS; rw [List.map_append, List.sum_append]; simp
theorem WS_more (xs : List Wai) (p : Wai) : WS (xs ++ [p]) = WS xs + p.amount := by
  unfold WS; rw [List.map_append, List.sum_append]; simp
theorem worth_bdW (m : Mil) (n : Int) : -1 ≤ worthV m n ∧ worthV m n ≤ 1000000 := by
  by_cases h : worthV m n < 0
  · have := worth_neg h; omega
  · have h1 := worth_facts h
    have h2 := millB_parts (worth_ok h).1
    omega
theorem PS_bd (ms : List Mil) : ∀ xs : List Par, -(xs.length : Int) ≤ PS ms xs ∧ PS ms xs ≤ 1000000 * xs.length
  | [] => by simp [PS]
  | p :: r => by
    have h1 := PS_bd ms r
    have h2 := worth_bdW (millInV ms p.mill) p.shares
    have h3 : PS ms (p :: r) = worthV (millInV ms p.mill) p.shares + PS ms r := by simp [PS]
    rw [h3, List.length_cons]
    omega
theorem WS_bd : ∀ xs : List Wai, (∀ p ∈ xs, waitB p = true) → 0 ≤ WS xs ∧ WS xs ≤ 1000000 * xs.length
  | [], _ => by simp [WS]
  | p :: r, h => by
    have h1 := WS_bd r (fun q hq => h q (List.mem_cons_of_mem _ hq))
    have h2 := wait_bd (h p (List.mem_cons_self ..))
    have h3 : WS (p :: r) = p.amount + WS r := by simp [WS]
    rw [h3, List.length_cons]
    omega
/-- What one has in all. -/
noncomputable def worthInV (b : Bok) (who : ByteArray) : Int :=
  if bookB b = true ∧ 0 ≤ placeV (pnames b.folk) who then pfree b.folk (placeV (pnames b.folk) who).toNat + PS b.mills (ofWho who b.parts) + WS (ofWhoW who b.waits) else -1
theorem worthIn_no {b : Bok} {who : ByteArray} (h : bookB b = false) : worthInV b who = -1 := by simp [worthInV, h]
theorem worthIn_out {b : Bok} {who : ByteArray} (h : ¬ 0 ≤ placeV (pnames b.folk) who) : worthInV b who = -1 := by simp [worthInV, h]
theorem worthIn_in {b : Bok} {who : ByteArray} {k : Nat} (h : bookB b = true) (e : placeV (pnames b.folk) who = k) (hk : k < b.folk.length) : worthInV b who = b.folk[k].free + PS b.mills (ofWho who b.parts) + WS (ofWhoW who b.waits) := by
  rw [worthInV, if_pos ⟨h, by omega⟩, e, show ((k : Int)).toNat = k by omega, pfree_eq hk]
theorem ofWhoW_mem {who : ByteArray} {ps : List Wai} (h : ∀ j (hj : j < ps.length), waitB ps[j] = true) (k : Nat) : ∀ p ∈ ofWhoW who (ps.take k), waitB p = true := by
  intro p hp
  have h1 := List.mem_of_mem_take (List.mem_filter.1 hp).1
  obtain ⟨j, hj, rfl⟩ := List.getElem_of_mem h1
  exact h j hj

set_option maxHeartbeats 8000000 in
set_option maxRecDepth 100000 in
theorem sWorthIn_any {w : World} {b : Bok} {s : Spots} (who : ByteArray) (h : BookAt w b s) (hl : BLen b) (hz : BSized b) :
    Calls Tryz.prog 15 #[.agg #[.int .i64 b.season, .int .i64 b.supply, .int .i64 b.burnt, .int .i64 b.pot, .slice s.fa b.folk.length s.fc, .slice s.ma b.mills.length s.mc, .slice s.pa b.parts.length s.pc, .slice s.wa b.waits.length s.wc], .string who] w fun e w' => e = .returned (.int .i64 (worthInV b who)) ∧ Below w.heap.size w w' := by
  obtain ⟨W, hW⟩ : ∃ W, w.alloc (.cells #[.int .i64 b.season, .int .i64 b.supply, .int .i64 b.burnt, .int .i64 b.pot, .slice s.fa b.folk.length s.fc, .slice s.ma b.mills.length s.mc, .slice s.pa b.parts.length s.pc, .slice s.wa b.waits.length s.wc] 29) = W := ⟨_, rfl⟩
  have X0 := Lib.hid (BoxB.new h 29)
  have B0 := Lib.hid (below_new w (.cells #[.int .i64 b.season, .int .i64 b.supply, .int .i64 b.burnt, .int .i64 b.pot, .slice s.fa b.folk.length s.fc, .slice s.ma b.mills.length s.mc, .slice s.pa b.parts.length s.pc, .slice s.wa b.waits.length s.wc] 29))
  rw [hW] at X0 B0
  have HL := Lib.hid hl
  have HZ := Lib.hid hz
  have l1 := hl.fl
  have l2 := hl.ml
  have l3 := hl.pl
  have l4 := hl.wl
  clear h hl hz
  have c0 := X0.out.c0
  have c1 := X0.out.c1
  have c2 := X0.out.c2
  have c3 := X0.out.c3
  have c4 := X0.out.c4
  have c5 := X0.out.c5
  have c6 := X0.out.c6
  have c7 := X0.out.c7
  go_enter Tryz.func15, Tryz.ntmps15
  go_wp2_with fail
  refine (sBookOk_any (s := s) X0.out.book HL.out HZ.out).mono ?_
  rintro e w1 ⟨rfl, hb1⟩
  have X1 := Lib.hid (X0.out.below hb1)
  have B1 := Lib.hid (below_trans B0.out hb1)
  clear hb1 c0 c1 c2 c3 c4 c5 c6 c7
  cases h1 : bookB b
  · have HN := Lib.hid (worthIn_no (who := who) h1)
    go_wp2
    go_ret
    exact ⟨by rw [HN.out]; rfl, B1.out⟩
  have c4 := X1.out.c4
  go_wp2_with fail
  refine (l3Find_any _ _ X1.out.book.folk (by omega)).mono ?_
  rintro e w2 ⟨rfl, rfl⟩
  by_cases hp : 0 ≤ placeV (pnames b.folk) who
  case neg =>
    have HN := Lib.hid (worthIn_out hp)
    have hlo := place_lo (pnames b.folk) who
    have hpe : placeV (pnames b.folk) who = -1 := by omega
    rw [hpe]
    clear hp hpe hlo
    go_wp2
    go_ret
    exact ⟨by rw [HN.out]; rfl, B1.out⟩
  obtain ⟨f, ef, hf, -⟩ := place_hit hp
  rw [len_pn] at hf
  have HN := Lib.hid (worthIn_in h1 ef hf)
  have HE := Lib.hid ef
  obtain ⟨hlists, hthere, -⟩ := book_true h1
  obtain ⟨⟨hfk, hmk, hpk, hwk⟩, -⟩ := lists_all hlists
  obtain ⟨hkp, hkw, -⟩ := there_true hthere
  have HKP := Lib.hid hkp
  have HMK := Lib.hid hmk
  have hp20 := (parts_true hpk).1
  have hw20 := (waits_true hwk).1
  have HWA := Lib.hid (fun j (hj : j < b.waits.length) => (waits_true hwk).2.1 j hj hj)
  have hfb := inB_bd ((folk_true hfk).2.1 f hf hf)
  rw [ef]
  clear hp ef hlists hthere hfk hmk hpk hwk hkp hkw h1
  obtain ⟨pf, of, epf, hlbf, d0, d1⟩ := X1.out.book.folk.at f hf
  rw [epf] at c4
  have hPF := X1.out.book.folk
  rw [epf] at hPF
  have HPF := Lib.hid hPF
  clear epf hPF
  have g4 := Grow.cell c4
  have g1 := Grow.cell d1
  clear d0 d1
  go_wp2
  refine wp_region_grow (by kernel_rfl) (by kernel_rfl) ?_
  repeat (go_big_quiet_step (first | (go_at_call 44; exact grow_same (int_is HE.out) (l3Find_any _ _ (HPF.out.below (Grow.ok _)) (by omega)))))
  refine wpQuiet_nil ?_
  intro _ hw'
  obtain ⟨gq, rfl⟩ := hw'
  have HBG := Lib.hid gq.ok
  obtain ⟨wg, hwg⟩ : ∃ x, gq.to = x := ⟨_, rfl⟩
  rw [hwg] at HBG
  rw [hwg]
  clear hwg gq g4 g1 c4
  go_wp2
  go_loopw [5, 6] (fun t i w' => ∃ k : Nat, k ≤ b.parts.length ∧ i = .int .i64 k ∧ t = .int .i64 (b.folk[f].free + PS b.mills (ofWho who (b.parts.take k))) ∧ Below w1.heap.size w1 w') (fun _ i _ => b.parts.length - (intOf i).toNat)
  case atStart => exact ⟨0, Nat.zero_le _, rfl, by simp [ofWho, PS], HBG.out⟩
  case round =>
    obtain ⟨k, hk, rfl, rfl, hb⟩ := hrel
    have X := Lib.hid (X1.out.below hb)
    have HB := Lib.hid hb
    have BB := Lib.hid (below_trans B1.out hb)
    clear hb HBG
    have c6 := X.out.c6
    obtain ⟨t, ht⟩ : ∃ t, PS b.mills (ofWho who (b.parts.take k)) = t := ⟨_, rfl⟩
    have hbd := PS_bd b.mills (ofWho who (b.parts.take k))
    have hle := ofWho_le who (b.parts.take k)
    rw [List.length_take] at hle
    rw [ht] at hbd
    rw [ht]
    have HT := Lib.hid ht
    clear ht
    by_cases hlt : k < b.parts.length
    · obtain ⟨p, off, ep, hlb, d0, d1, d2⟩ := Par.at X.out.book.parts k hlt
      rw [ep] at c6
      clear ep
      cases hq : (b.parts[k].who.toList == who.toList)
      · have HO := Lib.hid (show PS b.mills (ofWho who (b.parts.take (k + 1))) = t by rw [ofWho_no hlt hq]; exact HT.out)
        go_wp2
        go_roundw
        case rel => exact ⟨k + 1, by omega, by go_num, by rw [HO.out], HB.out⟩
        case measure => simp [intOf]; omega
      · obtain ⟨j, ej, hj, -⟩ := place_hit (known_true (HKP.out k hlt hlt)).2
        rw [len_mn] at hj
        have hmi := (millIn_in HMK.out ej hj).2
        have hwb := worth_bdW b.mills[j] b.parts[k].shares
        obtain ⟨v, hv⟩ : ∃ v, worthV b.mills[j] b.parts[k].shares = v := ⟨_, rfl⟩
        rw [hv] at hwb
        have HO := Lib.hid (show PS b.mills (ofWho who (b.parts.take (k + 1))) = t + v by rw [ofWho_yes hlt hq, PS_more, hmi, HT.out, hv])
        have HV := Lib.hid hv
        have EJ := Lib.hid ej
        obtain ⟨pm, om, em, hlm, m0, m1, m2, m3, m4⟩ := Mil.at X.out.book.mills j hj
        have c5 := X.out.c5
        rw [em] at c5
        have hPM := X.out.book.mills
        rw [em] at hPM
        have HPM := Lib.hid hPM
        clear em hPM hv ej hmi
        have hsz := Lib.hid (show b.mills[j].name.size ≤ maxLen from by have := HZ.out.ms j; rw [mnames_at hj] at this; exact this)
        have e5 := Grow.cell c5
        have e6 := Grow.cell c6
        have y1 := Grow.cell d1
        have y2 := Grow.cell d2
        have z0 := Grow.cell m0
        have z1 := Grow.cell m1
        have z2 := Grow.cell m2
        have z3 := Grow.cell m3
        have z4 := Grow.cell m4
        have hwr : IntKind.i64.wrap (b.folk[f].free + t + v) = b.folk[f].free + t + v := IntWalk.i64_in _ (by omega)
        clear m0 m1 m2 m3 m4
        go_wp2
        refine wp_region_grow (by kernel_rfl) (by kernel_rfl) ?_
        repeat (go_big_quiet_step (first | (go_at_call 46; exact grow_same (int_is EJ.out) (l4Find_any _ _ (HPM.out.below (Grow.ok _)) (by omega))) | (go_at_call 45; exact grow_call (int_is HV.out) (sWorth_any b.mills[j] _ _ hsz.out))))
        refine wpQuiet_nil ?_
        intro _ hw'
        obtain ⟨gr, rfl⟩ := hw'
        have HB2 := Lib.hid (below_trans HB.out gr.ok)
        go_wp2
        go_roundw
        case rel => exact ⟨k + 1, by omega, by go_num, by rw [HO.out, Int.add_assoc], HB2.out⟩
        case measure => simp [intOf]; omega
    obtain rfl : k = b.parts.length := by omega
    have HT1 := Lib.hid (show PS b.mills (ofWho who b.parts) = t by have := HT.out; rwa [List.take_length] at this)
    have hle1 : (ofWho who (b.parts.take b.parts.length)).length ≤ 20 := by omega
    clear hlt HT hle hk
    go_wp2
    go_loopw [5, 7] (fun n i w' => ∃ k : Nat, k ≤ b.waits.length ∧ i = .int .i64 k ∧ n = .int .i64 (b.folk[f].free + t + WS (ofWhoW who (b.waits.take k))) ∧ Below w1.heap.size w1 w') (fun _ i _ => b.waits.length - (intOf i).toNat)
    case atStart => exact ⟨0, Nat.zero_le _, rfl, by simp [ofWhoW, WS], HB.out⟩
    case round =>
      obtain ⟨k, hk, rfl, rfl, hb⟩ := hrel
      clear X HB BB c6
      have X := Lib.hid (X1.out.below hb)
      have HB := Lib.hid hb
      have BB := Lib.hid (below_trans B1.out hb)
      clear hb
      have c7 := X.out.c7
      obtain ⟨r, hr⟩ : ∃ r, WS (ofWhoW who (b.waits.take k)) = r := ⟨_, rfl⟩
      have hbr := WS_bd _ (ofWhoW_mem (who := who) HWA.out k)
      have hler := ofWhoW_le who (b.waits.take k)
      rw [List.length_take] at hler
      rw [hr] at hbr
      rw [hr]
      have HR := Lib.hid hr
      clear hr
      by_cases hlt : k < b.waits.length
      · obtain ⟨p, off, ep, hlb, d0, d1, d2, d3⟩ := Wai.at X.out.book.waits k hlt
        rw [ep] at c7
        clear ep
        cases hq : (b.waits[k].who.toList == who.toList)
        · have HO := Lib.hid (show WS (ofWhoW who (b.waits.take (k + 1))) = r by rw [ofWhoW_no hlt hq]; exact HR.out)
          go_wp2
          go_roundw
          case rel => exact ⟨k + 1, by omega, by go_num, by rw [HO.out], HB.out⟩
          case measure => simp [intOf]; omega
        · have HO := Lib.hid (show WS (ofWhoW who (b.waits.take (k + 1))) = r + b.waits[k].amount by rw [ofWhoW_yes hlt hq, WS_more, HR.out])
          have hab := wait_bd (HWA.out k hlt)
          have hwr : IntKind.i64.wrap (b.folk[f].free + t + r + b.waits[k].amount) = b.folk[f].free + t + r + b.waits[k].amount := IntWalk.i64_in _ (by omega)
          go_wp2
          go_roundw
          case rel => exact ⟨k + 1, by omega, by go_num, by rw [HO.out, Int.add_assoc (b.folk[f].free + t)], HB.out⟩
          case measure => simp [intOf]; omega
      obtain rfl : k = b.waits.length := by omega
      have HR1 := Lib.hid (show WS (ofWhoW who b.waits) = r by have := HR.out; rwa [List.take_length] at this)
      go_wp2
      go_ret
      exact ⟨by rw [HN.out, HT1.out, HR1.out]; rfl, BB.out⟩
end Go.Proofs.YtlnnchgaloejlaaGreat
namespace Go.Proofs.YtlnnchgaloejlaaGreat
open Go.ChangeShapes Go.WideShapes Go.ChangeAt Go.RowKit

theorem sum_map_add {α : Type} (l : List α) (f g : α → Int) : (l.map fun x => f x + g x).sum = (l.map f).sum + (l.map g).sum := by
  induction l with
  | nil => simp
  | cons x r ih => simp only [List.map_cons, List.sum_cons]; rw [ih]; omega
theorem sum_map_nonneg {α : Type} (l : List α) (f : α → Int) (h : ∀ x ∈ l, 0 ≤ f x) : 0 ≤ (l.map f).sum := by
  induction l with
  | nil => simp
  | cons x r ih =>
    have h1 := h x (List.mem_cons_self ..)
    have h2 := ih (fun y hy => h y (List.mem_cons_of_mem _ hy))
    simp only [List.map_cons, List.sum_cons]; omega
theorem sum_map_le {α : Type} (l : List α) (f g : α → Int) (h : ∀ x ∈ l, f x ≤ g x) : (l.map f).sum ≤ (l.map g).sum := by
  induction l with
  | nil => simp
  | cons x r ih =>
    have h1 := h x (List.mem_cons_self ..)
    have h2 := ih (fun y hy => h y (List.mem_cons_of_mem _ hy))
    simp only [List.map_cons, List.sum_cons]; omega
theorem one_le_sum {α : Type} (l : List α) (f : α → Int) (h : ∀ x ∈ l, 0 ≤ f x) {m : α} (hm : m ∈ l) : f m ≤ (l.map f).sum := by
  induction l with
  | nil => cases hm
  | cons x r ih =>
    have h1 := h x (List.mem_cons_self ..)
    have h2 := sum_map_nonneg r f (fun y hy => h y (List.mem_cons_of_mem _ hy))
    simp only [List.map_cons, List.sum_cons]
    rcases List.mem_cons.1 hm with rfl | hm
    · omega
    · have := ih (fun y hy => h y (List.mem_cons_of_mem _ hy)) hm
      omega
/-- Of names that differ each one's own, together, are no more than all. -/
theorem each_own {α : Type} (k : α → List UInt8) (v : α → Int) (ns : List (List UInt8)) (hn : ns.Nodup) : ∀ ps : List α, (∀ p ∈ ps, 0 ≤ v p) →
    (ns.map fun n => ((ps.filter fun p => k p == n).map v).sum).sum ≤ (ps.map v).sum
  | [], _ => by
    have : (ns.map fun n => ((([] : List α).filter fun p => k p == n).map v).sum).sum = 0 := by
      induction ns with
      | nil => rfl
      | cons x r ih => simp only [List.map_cons, List.sum_cons]; rw [ih (List.nodup_cons.1 hn).2]; simp
    rw [this]; simp
  | p :: r, h => by
    have ih := each_own k v ns hn r (fun q hq => h q (List.mem_cons_of_mem _ hq))
    have h0 := h p (List.mem_cons_self ..)
    have e : (ns.map fun n => (((p :: r).filter fun p => k p == n).map v).sum) = ns.map fun n => (if k p == n then v p else 0) + ((r.filter fun p => k p == n).map v).sum := by
      apply List.map_congr_left
      intro n _
      rw [List.filter_cons]
      split <;> simp
    rw [e, sum_map_add]
    have h1 : (ns.map fun n => if k p == n then v p else 0).sum ≤ v p := by
      clear e ih
      induction ns with
      | nil => simpa using h0
      | cons x s ih =>
        have hx := (List.nodup_cons.1 hn).1
        have hs := (List.nodup_cons.1 hn).2
        simp only [List.map_cons, List.sum_cons]
        by_cases hk : (k p == x) = true
        · have hz : (s.map fun n => if k p == n then v p else 0).sum = 0 := by
            have hkx : k p = x := by simpa using hk
            have : (s.map fun n => if k p == n then v p else 0) = s.map fun _ => (0 : Int) := by
              apply List.map_congr_left
              intro n hn'
              rw [if_neg]
              intro hc
              have : k p = n := by simpa using hc
              rw [← this, hkx] at hn'
              exact hx hn'
            rw [this]
            clear this hx hs hn ih
            induction s with
            | nil => rfl
            | cons y t it => simp only [List.map_cons, List.sum_cons, it]; rfl
          rw [if_pos hk, hz]; omega
        · rw [if_neg hk]
          have := ih hs
          omega
    simp only [List.map_cons, List.sum_cons]
    omega
/-- All, told one by one. -/
theorem by_groups {α β : Type} (t : α → β → Bool) (v : α → Int) (g : β → α → Int) (ms : List β) : ∀ ps : List α, (∀ p ∈ ps, ∃ m ∈ ms, t p m = true ∧ g m p = v p) → (∀ p ∈ ps, ∀ m ∈ ms, t p m = true → 0 ≤ g m p) →
    (ps.map v).sum ≤ (ms.map fun m => ((ps.filter fun p => t p m).map (g m)).sum).sum
  | [], _, _ => by
    have : ∀ ms : List β, (ms.map fun m => ((([] : List α).filter fun p => t p m).map (g m)).sum).sum = 0 := by
      intro ms
      induction ms with
      | nil => rfl
      | cons x r ih => simp only [List.map_cons, List.sum_cons]; rw [ih]; simp
    rw [this]; simp
  | p :: r, h, h2 => by
    have ih := by_groups t v g ms r (fun q hq => h q (List.mem_cons_of_mem _ hq)) (fun q hq => h2 q (List.mem_cons_of_mem _ hq))
    obtain ⟨m, hm, ht, hv⟩ := h p (List.mem_cons_self ..)
    have e : (ms.map fun m => (((p :: r).filter fun p => t p m).map (g m)).sum) = ms.map fun m => (if t p m then g m p else 0) + ((r.filter fun p => t p m).map (g m)).sum := by
      apply List.map_congr_left
      intro n _
      rw [List.filter_cons]
      split <;> simp
    rw [e, sum_map_add]
    have h1 := one_le_sum ms (fun m => if t p m then g m p else 0) (fun x hx => by
      show 0 ≤ if t p x = true then g x p else 0
      split
      · rename_i hq; exact h2 p (List.mem_cons_self ..) x hx hq
      · omega) hm
    simp only [if_pos ht, hv] at h1
    simp only [List.map_cons, List.sum_cons]
    omega
/-- Parts of shares, each alone, are worth no more than all of them. -/
theorem floors_le {T S : Int} (hS : 0 < S) : ∀ qs : List Int, (qs.map fun q => q * T / S).sum * S ≤ qs.sum * T
  | [] => by simp
  | q :: r => by
    have ih := floors_le hS r (T := T)
    have h1 : q * T / S * S ≤ q * T := Int.ediv_mul_le _ (by omega)
    simp only [List.map_cons, List.sum_cons, Int.add_mul]
    omega
theorem floors_all {T S : Int} (hS : 0 < S) {qs : List Int} (h : qs.sum = S) : (qs.map fun q => q * T / S).sum ≤ T := by
  have h1 := floors_le hS qs (T := T)
  rw [h, Int.mul_comm S T] at h1
  exact Int.le_of_mul_le_mul_right h1 hS

theorem sumP_map (ps : List Pur) : ∀ k, k ≤ ps.length → sumP ps k = ((ps.take k).map Pur.free).sum
  | 0, _ => by simp [sumP]
  | k + 1, h => by
    rw [sumP, sumP_map ps k (by omega), pfree_eq (by omega), List.take_succ_eq_append_getElem (by omega), List.map_append, List.sum_append]; simp
theorem sumM_map (ps : List Mil) : ∀ k, k ≤ ps.length → sumM ps k = ((ps.take k).map Mil.stake).sum
  | 0, _ => by simp [sumM]
  | k + 1, h => by
    rw [sumM, sumM_map ps k (by omega), getD_mil (by omega), List.take_succ_eq_append_getElem (by omega), List.map_append, List.sum_append]; simp
theorem sumA_mapB (ps : List Wai) : ∀ k, k ≤ ps.length → sumA ps k = ((ps.take k).map Wai.amount).sum
  | 0, _ => by simp [sumA]
  | k + 1, h => by
    rw [sumA, sumA_mapB ps k (by omega), watn_eq (by omega), List.take_succ_eq_append_getElem (by omega), List.map_append, List.sum_append]; simp
theorem sumS_map (ps : List Par) (mill : ByteArray) : ∀ k, k ≤ ps.length → sumS ps mill k = (((ps.take k).filter fun p => p.mill.toList == mill.toList).map Par.shares).sum
  | 0, _ => by simp [sumS]
  | k + 1, h => by
    rw [sumS, sumS_map ps mill k (by omega), patn_eq (by omega), List.take_succ_eq_append_getElem (by omega), List.filter_append, List.map_append, List.sum_append]
    congr 1
    by_cases hq : (ps[k].mill.toList == mill.toList) = true
    · rw [if_pos hq, List.filter_cons_of_pos (by simpa using hq)]; simp
    · rw [if_neg hq, List.filter_cons_of_neg (by simpa using hq)]; simp
/-- Names that rise differ. -/
theorem rises_nodup {ss : List ByteArray} (h : risesB ss = true) : (ss.map ByteArray.toList).Nodup := by
  rw [List.nodup_iff_pairwise_ne, List.pairwise_iff_getElem]
  intro i j hi hj hij e
  have hi' : i < ss.length := by simpa using hi
  have hj' : j < ss.length := by simpa using hj
  have := (rises_true h).ne hij hj'
  rw [sat_eq hi', sat_eq hj'] at this
  rw [List.getElem_map, List.getElem_map] at e
  rw [e] at this
  simp at this
theorem le_sum_part {xs : List Par} (h : ∀ p ∈ xs, 0 ≤ p.shares) {p : Par} (hp : p ∈ xs) : p.shares ≤ (xs.map Par.shares).sum := one_le_sum xs Par.shares h hp
/-- All have together no more than there is. -/
theorem book_sum {b : Bok} (h : bookB b = true) : (b.folk.map fun p => worthInV b p.name).sum + b.burnt + b.pot ≤ b.supply := by
  obtain ⟨hl, ht, htot⟩ := book_true h
  obtain ⟨⟨hf, hm, hp, hw⟩, -⟩ := lists_all hl
  obtain ⟨hkp, hkw, hhm⟩ := there_true ht
  have hfr := (folk_true hf).2.2
  obtain ⟨-, hmr, hmn⟩ := mills_true hm
  have hpu := (parts_true hp).2
  have hwu := (waits_true hw).2
  have pp : ∀ p ∈ b.parts, partB p = true := fun p hp => by obtain ⟨k, hk, rfl⟩ := List.getElem_of_mem hp; exact hpu.1 k hk hk
  have ww : ∀ p ∈ b.waits, waitB p = true := fun p hp => by obtain ⟨k, hk, rfl⟩ := List.getElem_of_mem hp; exact hwu.1 k hk hk
  have mm : ∀ m ∈ b.mills, millB m = true := fun p hp => by obtain ⟨k, hk, rfl⟩ := List.getElem_of_mem hp; exact hmr k hk hk
  -- the shares of each mill
  have hsh : ∀ m ∈ b.mills, (((b.parts.filter fun p => p.mill.toList == m.name.toList).map Par.shares).sum) = m.shares := fun m hm' => by
    obtain ⟨k, hk, rfl⟩ := List.getElem_of_mem hm'
    have h1 := hhm k hk hk
    rw [sharesInV, if_pos hp, sumS_map _ _ _ (Nat.le_refl _), List.take_length] at h1
    exact h1
  have hin : ∀ m ∈ b.mills, ∀ p ∈ b.parts, (p.mill.toList == m.name.toList) = true → 0 ≤ p.shares ∧ p.shares ≤ m.shares := fun m hm' p hp' e => by
    have h1 := part_bd1 (pp p hp')
    have h2 := le_sum_part (xs := b.parts.filter fun p => p.mill.toList == m.name.toList) (fun q hq => by have := part_bd1 (pp q (List.mem_filter.1 hq).1); omega) (List.mem_filter.2 ⟨hp', e⟩)
    rw [hsh m hm'] at h2
    omega
  have hwv : ∀ m ∈ b.mills, ∀ p ∈ b.parts, (p.mill.toList == m.name.toList) = true → worthV m p.shares = p.shares * m.stake / m.shares := fun m hm' p hp' e => by
    have h1 := hin m hm' p hp' e
    rw [worth_eq (mm m hm') h1.1 h1.2]
    split
    · rename_i hz
      rw [hz]; simp
    · rfl
  have hwn : ∀ m ∈ b.mills, ∀ p ∈ b.parts, (p.mill.toList == m.name.toList) = true → 0 ≤ worthV m p.shares := fun m hm' p hp' e => by
    have h1 := hin m hm' p hp' e
    have h2 := millB_parts (mm m hm')
    rw [hwv m hm' p hp' e]
    exact Int.ediv_nonneg (Int.mul_nonneg h1.1 (by omega)) (by omega)
  have hmi : ∀ p ∈ b.parts, ∃ m ∈ b.mills, (p.mill.toList == m.name.toList) = true ∧ millInV b.mills p.mill = m := fun p hp' => by
    obtain ⟨k, hk, rfl⟩ := List.getElem_of_mem hp'
    have h1 := (known_true (hkp k hk hk)).2
    obtain ⟨j, e, hj, hq⟩ := place_hit h1
    rw [len_mn] at hj
    rw [mnames_at hj] at hq
    exact ⟨b.mills[j], List.getElem_mem hj, beq_turn hq, (millIn_in hm e hj).2⟩
  -- the parts of all folk are no more than the stakes
  have hPS : PS b.mills b.parts ≤ (b.mills.map Mil.stake).sum := by
    refine Int.le_trans (by_groups (fun (p : Par) (m : Mil) => p.mill.toList == m.name.toList) (fun p => worthV (millInV b.mills p.mill) p.shares) (fun m p => worthV m p.shares) b.mills b.parts (fun p hp' => ?_) (fun p hp' m hm' e => hwn m hm' p hp' e)) (sum_map_le _ _ _ fun m hm' => ?_)
    · obtain ⟨m, hm', e, hv⟩ := hmi p hp'
      exact ⟨m, hm', e, by rw [hv]⟩
    · have h2 := millB_parts (mm m hm')
      have e : (b.parts.filter fun p => p.mill.toList == m.name.toList).map (fun p => worthV m p.shares) = ((b.parts.filter fun p => p.mill.toList == m.name.toList).map Par.shares).map fun q => q * m.stake / m.shares := by
        rw [List.map_map]
        apply List.map_congr_left
        intro p hp'
        exact hwv m hm' p (List.mem_filter.1 hp').1 (List.mem_filter.1 hp').2
      rw [e]
      by_cases hz : 0 < m.shares
      · exact floors_all hz (hsh m hm')
      · have hz0 : m.shares = 0 := by omega
        rw [hz0]
        have : ∀ l : List Int, (l.map fun q => q * m.stake / 0).sum = 0 := fun l => by
          induction l with
          | nil => rfl
          | cons x r ih => simp only [List.map_cons, List.sum_cons, ih]; simp
        rw [this]; omega
  have hno := rises_nodup hfr
  have hnn : (b.folk.map fun p => p.name.toList) = (pnames b.folk).map ByteArray.toList := by simp [pnames]
  have hPF : (b.folk.map fun p => PS b.mills (ofWho p.name b.parts)).sum ≤ PS b.mills b.parts := by
    have := each_own (fun p : Par => p.who.toList) (fun p => worthV (millInV b.mills p.mill) p.shares) (b.folk.map fun p => p.name.toList) (by rw [hnn]; exact hno) b.parts (fun p hp' => by
      obtain ⟨m, hm', e, hv⟩ := hmi p hp'
      rw [hv]; exact hwn m hm' p hp' e)
    rw [List.map_map] at this
    exact this
  have hWF : (b.folk.map fun p => WS (ofWhoW p.name b.waits)).sum ≤ WS b.waits := by
    have := each_own (fun p : Wai => p.who.toList) Wai.amount (b.folk.map fun p => p.name.toList) (by rw [hnn]; exact hno) b.waits (fun p hp' => by have := wait_bd (ww p hp'); omega)
    rw [List.map_map] at this
    exact this
  have hall : (b.folk.map fun p => worthInV b p.name) = b.folk.map fun p => p.free + PS b.mills (ofWho p.name b.parts) + WS (ofWhoW p.name b.waits) := by
    apply List.map_congr_left
    intro p hp'
    obtain ⟨k, hk, rfl⟩ := List.getElem_of_mem hp'
    have := place_self hfr (k := k) (by rw [len_pn]; exact hk)
    rw [pnames_at hk] at this
    exact worthIn_in h this hk
  rw [hall, sum_map_add, sum_map_add]
  have e1 := sumP_map b.folk _ (Nat.le_refl _)
  have e2 := sumM_map b.mills _ (Nat.le_refl _)
  have e3 := sumA_mapB b.waits _ (Nat.le_refl _)
  rw [List.take_length] at e1 e2 e3
  have e4 : WS b.waits = (b.waits.map Wai.amount).sum := rfl
  unfold totalV at htot
  omega
/-- What the first k have. -/
noncomputable def haveK (b : Bok) (k : Nat) : Int := ((b.folk.take k).map fun p => worthInV b p.name).sum
theorem haveK_succ {b : Bok} {k : Nat} (h : k < b.folk.length) : haveK b (k + 1) = haveK b k + worthInV b b.folk[k].name := by
  unfold haveK
  rw [List.take_succ_eq_append_getElem h, List.map_append, List.sum_append]; simp
theorem worthIn_bd {b : Bok} (h : bookB b = true) (who : ByteArray) : -100 ≤ worthInV b who ∧ worthInV b who ≤ 100000000 := by
  unfold worthInV
  split
  · rename_i hq
    obtain ⟨k, e, hk, -⟩ := place_hit hq.2
    rw [len_pn] at hk
    obtain ⟨hl, -, -⟩ := book_true h
    obtain ⟨⟨hf, -, hp, hw⟩, -⟩ := lists_all hl
    have h1 := inB_bd ((folk_true hf).2.1 k hk hk)
    have h2 := PS_bd b.mills (ofWho who b.parts)
    have h3 := WS_bd (ofWhoW who b.waits) (fun p hp' => by
      obtain ⟨j, hj, rfl⟩ := List.getElem_of_mem (List.mem_filter.1 hp').1
      exact (waits_true hw).2.1 j hj hj)
    have h4 : (ofWho who b.parts).length ≤ b.parts.length := List.length_filter_le _ _
    have h5 := ofWhoW_le who b.waits
    have h6 := (parts_true hp).1
    have h7 := (waits_true hw).1
    rw [e, Int.toNat_natCast, pfree_eq hk]
    omega
  · omega
end Go.Proofs.YtlnnchgaloejlaaGreat
