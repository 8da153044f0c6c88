/-
  Texts joined: Facts6, BookJ, BookK, BookX, CutI, ArgStrs, ArgPurs, ArgRecs, ArgMill, ArgPart, ArgWait, ArgBook.
-/
import Derived.Test.YtjlilmcilojkbaaGreatJ6
import Derived.SliceStrings
import Derived.ShutString
import Derived.ChangeOld
import Derived.Carry
import Derived.Deep.SlicePairs
import Derived.Deep.Slices
import Derived.Deep.Fields
namespace Go.Proofs.YtjlilmcilojkbaaGreat
open Go.ChangeShapes Go.WideShapes Go.ChangeAt Go.RowKit

theorem wup_le {ps : List Wai} (h : WUp ps ps.length) {j : Nat} : ∀ m (hm : j + 1 + m < ps.length), (ps[j]'(by omega)).ripe ≤ ps[j + 1 + m].ripe
  | 0, hm => h.2 j hm hm
  | m + 1, hm => Int.le_trans (wup_le h m (by omega)) (h.2 (j + 1 + m) hm hm)
theorem wup_pair {ps : List Wai} : WUp ps ps.length ↔ (∀ p ∈ ps, waitB p = true) ∧ ps.Pairwise (fun p q => p.ripe ≤ q.ripe) := by
  constructor
  · intro h
    refine ⟨fun p hp => ?_, ?_⟩
    · obtain ⟨k, hk, rfl⟩ := List.getElem_of_mem hp; exact h.1 k hk hk
    · rw [List.pairwise_iff_getElem]
      intro i j hi hj hij
      have := wup_le h (j := i) (j - (i + 1)) (by omega)
      simpa [show i + 1 + (j - (i + 1)) = j by omega] using this
  · rintro ⟨h1, h2⟩
    rw [List.pairwise_iff_getElem] at h2
    exact ⟨fun j hj _ => h1 _ (List.getElem_mem hj), fun j hj _ => h2 j (j + 1) (by omega) hj (by omega)⟩
theorem waits_pair {ps : List Wai} : waitsB ps = true ↔ ps.length ≤ 20 ∧ (∀ p ∈ ps, waitB p = true) ∧ ps.Pairwise (fun p q => p.ripe ≤ q.ripe) := by
  rw [← wup_pair]
  exact ⟨waits_true, fun h => waits_yes h.1 h.2⟩
theorem sumA_take {ps : List Wai} : ∀ k, k ≤ ps.length → sumA ps k = ((ps.take k).map Wai.amount).sum
  | 0, _ => by simp [sumA]
  | k + 1, hk => by
    rw [sumA, sumA_take k (by omega), List.take_succ_eq_append_getElem (by omega), List.map_append, List.sum_append, watn_eq (by omega)]
    simp
theorem amount_eq {ps : List Wai} (h : waitsB ps = true) : amountInV ps = (ps.map Wai.amount).sum := by
  rw [amountInV, if_pos h, sumA_take _ (Nat.le_refl _), List.take_length]
theorem amount_bd {ps : List Wai} (h : waitsB ps = true) : 0 ≤ amountInV ps ∧ amountInV ps ≤ 20000000 := by
  have h1 := waits_true h
  have h2 := sumA_bd h1.2 ps.length (Nat.le_refl _)
  rw [amountInV, if_pos h]
  omega

/-- One more waits: nothing else turns. -/
theorem waiting_more {ps : List Wai} {q : Wai} (h : waitingB ps q = true) :
    waitsB (waitingL ps q) = true ∧ (waitingL ps q).length = ps.length + 1 ∧ amountInV (waitingL ps q) = amountInV ps + q.amount := by
  have h0 := h
  simp only [waitingB, Bool.and_eq_true] at h
  obtain ⟨hf, hx⟩ := h
  have hL : waitingL ps q = putW ps q := by rw [waitingL, if_pos hf, if_pos h0]
  have hle := lowW_le ps q.ripe
  rw [hL]
  refine ⟨hx, by unfold putW; simp; omega, ?_⟩
  rw [amount_eq hx, amount_eq hf, putW]
  generalize lowW ps q.ripe = k
  conv => rhs; rw [← List.take_append_drop k ps]
  simp only [List.map_append, List.sum_append, List.map_cons, List.map_nil, List.sum_cons, List.sum_nil]
  omega

theorem part_sum (season : Int) : ∀ (ps : List Wai), ((laterOf season ps).map Wai.amount).sum + ((ripeOf season ps).map Wai.amount).sum = (ps.map Wai.amount).sum ∧ (laterOf season ps).length + (ripeOf season ps).length = ps.length
  | [] => by simp [laterOf, ripeOf]
  | p :: r => by
    have ih := part_sum season r
    unfold laterOf ripeOf at ih ⊢
    by_cases h : season < p.ripe
    · simp only [List.filter_cons, h, decide_true, Bool.not_true, if_true, Bool.false_eq_true, if_false, List.map_cons, List.sum_cons, List.length_cons]
      omega
    · simp only [List.filter_cons, h, decide_false, Bool.not_false, if_true, Bool.false_eq_true, if_false, List.map_cons, List.sum_cons, List.length_cons]
      omega
theorem sub_waits {ps qs : List Wai} (h : waitsB ps = true) (hs : qs.Sublist ps) : waitsB qs = true := by
  obtain ⟨h1, h2, h3⟩ := waits_pair.1 h
  exact waits_pair.2 ⟨Nat.le_trans hs.length_le h1, fun p hp => h2 p (hs.subset hp), h3.sublist hs⟩
/-- Nothing is lost. -/
theorem ripe_all {ps : List Wai} (h : waitsB ps = true) (season : Int) : waitsB (laterV ps season) = true ∧ waitsB (ripeV ps season) = true ∧ amountInV (laterV ps season) + amountInV (ripeV ps season) = amountInV ps ∧ (laterV ps season).length + (ripeV ps season).length = ps.length := by
  have e1 : laterV ps season = laterOf season ps := by rw [laterV, if_pos h]
  have e2 : ripeV ps season = ripeOf season ps := by rw [ripeV, if_pos h]
  have s1 : waitsB (laterOf season ps) = true := sub_waits h List.filter_sublist
  have s2 : waitsB (ripeOf season ps) = true := sub_waits h List.filter_sublist
  rw [e1, e2, amount_eq s1, amount_eq s2, amount_eq h]
  exact ⟨s1, s2, part_sum season ps⟩
theorem ripe_take (season : Int) : ∀ (ps : List Wai), ps.Pairwise (fun p q => p.ripe ≤ q.ripe) → ripeOf season ps = ps.take (ripeOf season ps).length
  | [], _ => by simp [ripeOf]
  | p :: r, h => by
    rw [List.pairwise_cons] at h
    by_cases hq : season < p.ripe
    · have hn : ripeOf season (p :: r) = [] := by
        unfold ripeOf
        rw [List.filter_eq_nil_iff]
        intro q hq2
        rcases List.mem_cons.1 hq2 with rfl | hm
        · simpa using hq
        · have := h.1 q hm
          simp; omega
      rw [hn]; simp
    · have ih := ripe_take season r h.2
      have he : ripeOf season (p :: r) = p :: ripeOf season r := by unfold ripeOf; simp [hq]
      rw [he, List.length_cons, List.take_succ_cons, ← ih]
/-- Ripe are the first ones, and none later. -/
theorem ripe_first (ps : List Wai) (season : Int) : ripeV ps season = ps.take (ripeV ps season).length ∧ ∀ i (h : i < (ripeV ps season).length), (ripeV ps season)[i].ripe ≤ season := by
  cases hf : waitsB ps
  · have e : ripeV ps season = [] := by simp [ripeV, hf]
    rw [e]; simp
  · have e : ripeV ps season = ripeOf season ps := by rw [ripeV, if_pos hf]
    rw [e]
    refine ⟨ripe_take season ps (waits_pair.1 hf).2.2, fun i h => ?_⟩
    have hm := List.getElem_mem h
    generalize (ripeOf season ps)[i] = q at hm ⊢
    unfold ripeOf at hm
    rw [List.mem_filter] at hm
    have := hm.2
    simp at this; omega

/-- What waits of that mill. -/
def mineW (mill : ByteArray) (p : Wai) : Int := if (p.mill.toList == mill.toList) = true then p.amount else 0
def mineOf (mill : ByteArray) (ps : List Wai) : Int := (ps.map (mineW mill)).sum
theorem mine_next {ps : List Wai} {mill : ByteArray} {k : Nat} (h : k < ps.length) : mineOf mill (ps.take (k + 1)) = mineOf mill (ps.take k) + mineW mill ps[k] := by
  unfold mineOf
  rw [List.take_succ_eq_append_getElem h, List.map_append, List.sum_append]
  simp
theorem mine_bd {ps : List Wai} (h : WUp ps ps.length) (mill : ByteArray) : ∀ k, k ≤ ps.length → 0 ≤ mineOf mill (ps.take k) ∧ mineOf mill (ps.take k) ≤ 1000000 * k
  | 0, _ => by simp [mineOf]
  | k + 1, hk => by
    have h1 := mine_bd h mill k (by omega)
    have h2 := wait_bd (h.1 k (by omega) (by omega))
    rw [mine_next (by omega)]
    unfold mineW
    split <;> omega
theorem fine_sum {mill : ByteArray} {pc : Int} (hp : inB 0 100 pc = true) : ∀ (ps : List Wai), (∀ p ∈ ps, waitB p = true) → ((finOf mill pc ps).map Wai.amount).sum + finSum mill pc ps = (ps.map Wai.amount).sum ∧ 100 * finSum mill pc ps ≤ pc * mineOf mill ps ∧ (pc = 0 → finSum mill pc ps = 0)
  | [], _ => by simp [finOf, finSum, mineOf]
  | p :: r, h => by
    obtain ⟨i1, i2, i3⟩ := fine_sum (mill := mill) hp r (fun q hq => h q (List.mem_cons_of_mem _ hq))
    have hw := h p (by simp)
    have hb := wait_bd hw
    have hc := cut_bd (mill := mill) hw hp
    have hpb := inB_true hp
    have hs : finSum mill pc (p :: r) = cutW mill pc p + finSum mill pc r := by simp [finSum]
    have hm : mineOf mill (p :: r) = mineW mill p + mineOf mill r := by simp [mineOf]
    have hcut : 100 * cutW mill pc p ≤ pc * mineW mill p ∧ (pc = 0 → cutW mill pc p = 0) := by
      unfold cutW mineW
      split
      · rw [partV, if_pos (by rw [hp, inB_of (by omega) (by omega)]; rfl)]
        constructor
        · rw [Int.mul_comm pc]
          have := Int.mul_ediv_self_le (x := p.amount * pc) (k := 100) (by omega)
          omega
        · rintro rfl; simp
      · simp
    refine ⟨?_, ?_, ?_⟩
    · rw [hs]
      by_cases hz : 0 < (fineW mill pc p).amount
      · have e : finOf mill pc (p :: r) = fineW mill pc p :: finOf mill pc r := by unfold finOf; simp [hz]
        rw [e]
        simp only [List.map_cons, List.sum_cons]
        have : (fineW mill pc p).amount = p.amount - cutW mill pc p := rfl
        omega
      · have e : finOf mill pc (p :: r) = finOf mill pc r := by unfold finOf; simp [hz]
        rw [e]
        simp only [List.map_cons, List.sum_cons]
        have : (fineW mill pc p).amount = p.amount - cutW mill pc p := rfl
        omega
    · rw [hs, hm, Int.mul_add, Int.mul_add]
      have := hcut.1
      omega
    · intro hp0
      rw [hs, hcut.2 hp0, i3 hp0]; simp
/-- What is fined is less, by no more than the percent. -/
theorem fined_less {ps : List Wai} {mill : ByteArray} {pc : Int} (h : finedB ps pc = true) :
    waitsB (finedL ps mill pc) = true ∧ amountInV (finedL ps mill pc) + finedN ps mill pc = amountInV ps ∧ 100 * finedN ps mill pc ≤ pc * mineOf mill ps ∧ (pc = 0 → finedN ps mill pc = 0) ∧ 0 ≤ finedN ps mill pc := by
  have h0 := h
  simp only [finedB, Bool.and_eq_true] at h
  obtain ⟨hf, hp⟩ := h
  have e1 : finedL ps mill pc = finOf mill pc ps := by rw [finedL, if_pos h0]
  have e2 : finedN ps mill pc = finSum mill pc ps := by rw [finedN, if_pos h0]
  obtain ⟨w1, w2, w3⟩ := waits_pair.1 hf
  have hx : waitsB (finOf mill pc ps) = true := by
    refine waits_pair.2 ⟨Nat.le_trans (finOf_le mill pc ps) w1, fun q hq => ?_, ?_⟩
    · unfold finOf at hq
      rw [List.mem_filter, List.mem_map] at hq
      obtain ⟨⟨p, hpm, rfl⟩, hpos⟩ := hq
      have hw := w2 p hpm
      have hc := cut_bd (mill := mill) hw hp
      have hb := wait_bd hw
      have hpos' : 0 < p.amount - cutW mill pc p := by simpa [fineW] using hpos
      simp only [waitB, Bool.and_eq_true] at hw ⊢
      exact ⟨hw.1, hw.2.1, inB_of (by show 1 ≤ p.amount - cutW mill pc p; omega) (by show p.amount - cutW mill pc p ≤ 1000000; omega), hw.2.2.2⟩
    · unfold finOf
      refine List.Pairwise.filter _ ?_
      rw [List.pairwise_map]
      exact w3
  obtain ⟨s1, s2, s3⟩ := fine_sum (mill := mill) hp ps w2
  have hb := fin_bd (mill := mill) (waits_true hf).2 hp ps.length (Nat.le_refl _)
  rw [List.take_length] at hb
  rw [e1, e2, amount_eq hx, amount_eq hf]
  exact ⟨hx, s1, s2, s3, hb.1⟩
theorem fined_not {ps : List Wai} {mill : ByteArray} {pc : Int} (h : finedB ps pc = false) : finedN ps mill pc = -1 ∧ finedL ps mill pc = [] := by
  rw [finedN, finedL, if_neg (by rw [h]; decide), if_neg (by rw [h]; decide)]
  exact ⟨rfl, rfl⟩
end Go.Proofs.YtjlilmcilojkbaaGreat
namespace Go.Proofs.YtjlilmcilojkbaaGreat
open Go.ChangeShapes Go.WideShapes Go.ChangeAt Go.RowKit

set_option maxHeartbeats 1000000 in
set_option maxRecDepth 100000 in
theorem iFree_any {w : World} {a : Option Addr} {ps : List Pur} (cap : Nat) (h : Purs w a ps) (hl : ps.length ≤ 1048576) (hs : Sized (pnames ps)) :
    Calls Tryz.prog 68 #[.slice a ps.length cap] w fun e w' => e = .returned (.int .i64 (freeInV ps)) ∧ Below w.heap.size w w' := by
  have H := Lib.hid h
  have HS := Lib.hid hs
  clear h hs
  go_enter Tryz.func68, Tryz.ntmps68
  go_wp2_with (go_at_call 84; refine (iFreeIn_any _ H.out hl HS.out).mono ?_; rintro e w1 ⟨rfl, hb1⟩)
  go_ret
  exact ⟨rfl, hb1⟩

set_option maxHeartbeats 1000000 in
set_option maxRecDepth 100000 in
theorem iStaked_any {w : World} {a : Option Addr} {ps : List Mil} (cap : Nat) (h : Recs Mil.cs w a ps) (hl : ps.length ≤ 9223372036854775807) (hs : Sized (mnames ps)) :
    Calls Tryz.prog 69 #[.slice a ps.length cap] w fun e w' => e = .returned (.int .i64 (stakesV ps)) ∧ Below w.heap.size w w' := by
  have H := Lib.hid h
  have HS := Lib.hid hs
  clear h hs
  go_enter Tryz.func69, Tryz.ntmps69
  go_wp2_with (go_at_call 85; refine (iStakesIn_any _ H.out hl HS.out).mono ?_; rintro e w1 ⟨rfl, hb1⟩)
  go_ret
  exact ⟨rfl, hb1⟩

set_option maxHeartbeats 1000000 in
set_option maxRecDepth 100000 in
theorem iWaitingM_any {w : World} {a : Option Addr} {ps : List Wai} (cap : Nat) (h : Recs Wai.cs w a ps) (hl : ps.length ≤ 9223372036854775807) (hs : WSized ps) :
    Calls Tryz.prog 70 #[.slice a ps.length cap] w fun e w' => e = .returned (.int .i64 (amountInV ps)) ∧ Below w.heap.size w w' := by
  have H := Lib.hid h
  have HS := Lib.hid hs
  clear h hs
  go_enter Tryz.func70, Tryz.ntmps70
  go_wp2_with (go_at_call 86; refine (iAmountIn_any _ H.out hl HS.out).mono ?_; rintro e w1 ⟨rfl, hb1⟩)
  go_ret
  exact ⟨rfl, hb1⟩

set_option maxHeartbeats 1000000 in
set_option maxRecDepth 100000 in
theorem iSharesInM_any {w : World} {a : Option Addr} {ps : List Par} (cap : Nat) (mill : ByteArray) (h : Recs Par.cs w a ps) (hl : ps.length ≤ 9223372036854775807) (hs : PSized ps) :
    Calls Tryz.prog 72 #[.slice a ps.length cap, .string mill] w fun e w' => e = .returned (.int .i64 (sharesInV ps mill)) ∧ Below w.heap.size w w' := by
  have H := Lib.hid h
  have HS := Lib.hid hs
  clear h hs
  go_enter Tryz.func72, Tryz.ntmps72
  go_wp2_with (go_at_call 89; refine (iSharesIn_any _ _ H.out hl HS.out).mono ?_; rintro e w1 ⟨rfl, hb1⟩)
  go_ret
  exact ⟨rfl, hb1⟩

theorem has_free {ps : List Pur} (s : ByteArray) (hf : folkB ps = true) : (freeOfV ps s < 0) = (placeV (pnames ps) s < 0) := by
  by_cases hp : 0 ≤ placeV (pnames ps) s
  · obtain ⟨k, e, hk, -⟩ := place_hit hp
    rw [len_pn] at hk
    have h1 := freeOf_in hf e hk
    have h2 := inB_bd ((folk_true hf).2.1 k hk hk)
    rw [h1, e]
    simp only [eq_iff_iff]
    omega
  · rw [freeOf_out hp]
    simp only [eq_iff_iff]
    omega

set_option maxHeartbeats 1000000 in
set_option maxRecDepth 100000 in
theorem iHasPurse_any {w : World} {a : Option Addr} {ps : List Pur} (cap : Nat) (s : ByteArray) (h : Purs w a ps) (hl : ps.length ≤ 1048576) (hs : Sized (pnames ps)) (hf : folkB ps = true) :
    Calls Tryz.prog 87 #[.slice a ps.length cap, .string s] w fun e w' => e = .returned (.bool (decide (0 ≤ placeV (pnames ps) s))) ∧ Below w.heap.size w w' := by
  have H := Lib.hid h
  have HS := Lib.hid hs
  have HF := Lib.hid (has_free s hf)
  clear h hs hf
  go_enter Tryz.func87, Tryz.ntmps87
  go_wp2_with fail
  refine (iFreeOf_any _ _ H.out hl HS.out).mono ?_
  rintro e w1 ⟨rfl, hb1⟩
  obtain ⟨q, hq⟩ : ∃ q, placeV (pnames ps) s = q := ⟨_, rfl⟩
  obtain ⟨v, hv⟩ : ∃ v, freeOfV ps s = v := ⟨_, rfl⟩
  rw [hq, hv] at HF
  have HQ := Lib.hid hq
  rw [hv]
  clear hq hv
  have HD := Lib.hid (show decide (0 ≤ q) = decide (0 ≤ v) by have := HF.out; rw [eq_iff_iff] at this; exact decide_eq_decide.2 (by omega))
  go_wp2
  go_ret
  exact ⟨by rw [HQ.out, HD.out]; rfl, hb1⟩

set_option maxHeartbeats 1000000 in
set_option maxRecDepth 100000 in
theorem iHasMill_any {w : World} {a : Option Addr} {ms : List Mil} (cap : Nat) (s : ByteArray) (h : Recs Mil.cs w a ms) (hl : ms.length ≤ 9223372036854775807) (hs : Sized (mnames ms)) :
    Calls Tryz.prog 88 #[.slice a ms.length cap, .string s] w fun e w' => e = .returned (.bool (millInB ms s)) ∧ Below w.heap.size w w' := by
  have H := Lib.hid h
  have HS := Lib.hid hs
  clear h hs
  obtain ⟨m, HM⟩ : ∃ x, Hid (millInV ms s = x) := ⟨_, Lib.hid rfl⟩
  go_enter Tryz.func88, Tryz.ntmps88
  go_wp2_with fail
  refine (iMillIn_any _ _ H.out hl HS.out).mono ?_
  rw [HM.out]
  rintro e w1 ⟨rfl, hb1⟩
  have B1 := Lib.hid hb1
  clear hb1
  go_wp2
  go_ret
  exact ⟨rfl, below_trans B1.out (below_new _ _)⟩

set_option maxHeartbeats 2000000 in
set_option maxRecDepth 100000 in
theorem iKnows_any {w : World} {b : Bok} {s : Spots} (who mill : ByteArray) (h : BookAt w b s) (hl : BLen b) (hz : BSized b) (hf : folkB b.folk = true) (hm : millsB b.mills = true) :
    Calls Tryz.prog 71 #[.agg #[.slice s.fa b.folk.length s.fc, .slice s.ma b.mills.length s.mc, .slice s.pa b.parts.length s.pc, .slice s.wa b.waits.length s.wc], .string who, .string mill] w fun e w' => e = .returned (.bool (knownB b who mill)) ∧ Below w.heap.size w w' := by
  have X0 := Lib.hid (BoxL.new h 87)
  have B0 := Lib.hid (below_new w (.cells #[.slice s.fa b.folk.length s.fc, .slice s.ma b.mills.length s.mc, .slice s.pa b.parts.length s.pc, .slice s.wa b.waits.length s.wc] 87))
  have HL := Lib.hid hl
  have HZ := Lib.hid hz
  have HF := Lib.hid hf
  have HK : Hid (knownB b who mill = (decide (0 ≤ placeV (pnames b.folk) who) && millInB b.mills mill)) := by
    simp [Hid, knownB, millInB, hm]
  clear h hl hz hf hm
  go_enter Tryz.func71, Tryz.ntmps71
  go_wp2_with fail
  refine (iHasPurse_any _ _ X0.out.book.folk HL.out.fl HZ.out.fs HF.out).mono ?_
  rintro e w1 ⟨rfl, hb1⟩
  have X1 := Lib.hid (X0.out.below hb1)
  have B1 := Lib.hid (below_trans B0.out hb1)
  clear X0 B0 hb1
  obtain ⟨d, hd⟩ : ∃ d, decide (0 ≤ placeV (pnames b.folk) who) = d := ⟨_, rfl⟩
  rw [hd] at HK
  rw [hd]
  clear hd
  cases d
  · go_wp2
    go_ret
    exact ⟨by rw [HK.out]; rfl, B1.out⟩
  have c1 := X1.out.c1
  go_wp2_with fail
  refine (iHasMill_any _ _ X1.out.book.mills (by have := HL.out.ml; omega) HZ.out.ms).mono ?_
  rintro e w2 ⟨rfl, hb2⟩
  have B2 := Lib.hid (below_trans B1.out hb2)
  clear X1 B1 hb2 c1
  go_wp2
  go_ret
  exact ⟨by rw [HK.out]; rfl, B2.out⟩

/-- All that are named are there. -/
noncomputable def knowsB (b : Bok) : Bool := @decide (KnowsP b b.parts.length ∧ KnowsW b b.waits.length) (Classical.propDecidable _)
theorem knows_true {b : Bok} (h : knowsB b = true) : KnowsP b b.parts.length ∧ KnowsW b b.waits.length := by
  unfold knowsB at h; exact @of_decide_eq_true _ (Classical.propDecidable _) h
theorem knows_yes {b : Bok} (h1 : KnowsP b b.parts.length) (h2 : KnowsW b b.waits.length) : knowsB b = true := by
  unfold knowsB; exact @decide_eq_true _ (Classical.propDecidable _) ⟨h1, h2⟩
theorem knows_no {b : Bok} (h : ¬ (KnowsP b b.parts.length ∧ KnowsW b b.waits.length)) : knowsB b = false := by
  unfold knowsB; exact @decide_eq_false _ (Classical.propDecidable _) h
theorem knows_p {b : Bok} {k : Nat} (hk : k < b.parts.length) (h : knownB b b.parts[k].who b.parts[k].mill = false) : knowsB b = false :=
  knows_no fun ⟨h1, _⟩ => by rw [h1 k hk hk] at h; cases h
theorem knows_w {b : Bok} {k : Nat} (hk : k < b.waits.length) (h : knownB b b.waits[k].who b.waits[k].mill = false) : knowsB b = false :=
  knows_no fun ⟨_, h1⟩ => by rw [h1 k hk hk] at h; cases h
/-- All shares are held. -/
noncomputable def heldB (b : Bok) : Bool := @decide (HeldM b b.mills.length) (Classical.propDecidable _)
theorem heldM_true {b : Bok} (h : heldB b = true) : HeldM b b.mills.length := by
  unfold heldB at h; exact @of_decide_eq_true _ (Classical.propDecidable _) h
theorem heldM_yes {b : Bok} (h1 : HeldM b b.mills.length) : heldB b = true := by
  unfold heldB; exact @decide_eq_true _ (Classical.propDecidable _) h1
theorem heldM_no {b : Bok} {k : Nat} (hk : k < b.mills.length) (h : sharesInV b.parts b.mills[k].name ≠ b.mills[k].shares) : heldB b = false := by
  unfold heldB; exact @decide_eq_false _ (Classical.propDecidable _) (fun h1 => h (h1 k hk hk))
theorem there_both (b : Bok) : thereB b = (knowsB b && heldB b) := by
  cases h1 : knowsB b
  · cases h2 : thereB b
    · rfl
    · have := there_true h2
      rw [knows_yes this.1 this.2.1] at h1; cases h1
  · cases h3 : heldB b
    · cases h2 : thereB b
      · rfl
      · have := there_true h2
        rw [heldM_yes this.2.2] at h3; cases h3
    · have a := knows_true h1
      rw [there_yes a.1 a.2 (heldM_true h3)]; rfl

set_option maxHeartbeats 8000000 in
set_option maxRecDepth 100000 in
theorem iKnowsAll_any {w : World} {b : Bok} {s : Spots} (h : BookAt w b s) (hl : BLen b) (hz : BSized b) (hf : folkB b.folk = true) (hm : millsB b.mills = true) :
    Calls Tryz.prog 45 #[.agg #[.slice s.fa b.folk.length s.fc, .slice s.ma b.mills.length s.mc, .slice s.pa b.parts.length s.pc, .slice s.wa b.waits.length s.wc]] w fun e w' => e = .returned (.bool (knowsB b)) ∧ Below w.heap.size w w' := by
  obtain ⟨W, hW⟩ : ∃ W, w.alloc (.cells #[.slice s.fa b.folk.length s.fc, .slice s.ma b.mills.length s.mc, .slice s.pa b.parts.length s.pc, .slice s.wa b.waits.length s.wc] 87) = W := ⟨_, rfl⟩
  have X0 := Lib.hid (BoxL.new h 87)
  have B0 := Lib.hid (below_new w (.cells #[.slice s.fa b.folk.length s.fc, .slice s.ma b.mills.length s.mc, .slice s.pa b.parts.length s.pc, .slice s.wa b.waits.length s.wc] 87))
  rw [hW] at X0 B0
  have HL := Lib.hid hl
  have HZ := Lib.hid hz
  have HF := Lib.hid hf
  have HM := Lib.hid hm
  have l3 := hl.pl
  have l4 := hl.wl
  clear h hl hz hf hm
  have c2 := X0.out.c2
  cases s with | mk fa fc ma mc pa pc wa wc =>
  dsimp only at c2 hW ⊢
  go_enter Tryz.func45, Tryz.ntmps45
  go_wp2
  clear c2
  go_loopw [10] (fun i w' => ∃ k : Nat, k ≤ b.parts.length ∧ i = .int .i64 k ∧ Below W.heap.size W w' ∧ KnowsP b k) (fun i _ => b.parts.length - (intOf i).toNat)
  case atStart => exact ⟨0, Nat.zero_le _, rfl, Below.refl _ _, KnowsP.zero _⟩
  case round =>
    obtain ⟨k, hk, rfl, hb, hu⟩ := hrel
    have X := Lib.hid (X0.out.below hb)
    have BB := Lib.hid (below_trans B0.out hb)
    have HB := Lib.hid hb
    have HU := Lib.hid hu
    clear hb hu
    by_cases hlt : k < b.parts.length
    · obtain ⟨p, off, ep, hlb, d0, d1, d2⟩ := Par.at X.out.book.parts k hlt
      dsimp only at ep
      subst ep
      obtain ⟨V, hV⟩ : ∃ V, wr.alloc (.cells #[.string b.parts[k].who, .string b.parts[k].mill, .int .i64 b.parts[k].shares] 75) = V := ⟨_, rfl⟩
      have BV := Lib.hid (below_new wr (.cells #[.string b.parts[k].who, .string b.parts[k].mill, .int .i64 b.parts[k].shares] 75))
      have RV := Lib.hid (RecAt.new Par.cs wr b.parts[k] 75)
      rw [hV] at BV
      rw [show wr.alloc (.cells (b.parts[k].cs).toArray 75) = V from hV] at RV
      have XV := Lib.hid (X.out.below BV.out)
      have HBV := Lib.hid (below_trans HB.out BV.out)
      have BBV := Lib.hid (below_trans BB.out BV.out)
      have r0 := RV.out 0 _ rfl
      have r1 := RV.out 1 _ rfl
      have x0 := XV.out.c0
      have x1 := XV.out.c1
      have x2 := XV.out.c2
      have x3 := XV.out.c3
      dsimp only at x0 x1 x2 x3
      clear hlb
      go_wp2_with fail
      refine (iKnows_any _ _ XV.out.book HL.out HZ.out HF.out HM.out).mono ?_
      rintro e w3 ⟨rfl, hb3⟩
      cases hq : knownB b b.parts[k].who b.parts[k].mill
      · have HN := Lib.hid (knows_p hlt hq)
        have HB3 := Lib.hid (below_trans BBV.out hb3)
        clear hb3
        go_wp2
        go_ret
        exact ⟨by rw [HN.out]; rfl, HB3.out⟩
      have HN := Lib.hid (HU.out.succ hlt hq)
      have HB3 := Lib.hid (below_trans HBV.out hb3)
      clear hb3
      go_wp2
      go_roundw
      case rel => exact ⟨k + 1, by omega, by go_num, HB3.out, HN.out⟩
      case measure => simp [intOf]; omega
    obtain rfl : k = b.parts.length := by omega
    have KP := HU
    have x3 := X.out.c3
    dsimp only at x3
    clear HU hlt
    go_wp2
    go_loopw [25] (fun i w' => ∃ k : Nat, k ≤ b.waits.length ∧ i = .int .i64 k ∧ Below W.heap.size W w' ∧ KnowsW b k) (fun i _ => b.waits.length - (intOf i).toNat)
    case atStart => exact ⟨0, Nat.zero_le _, rfl, HB.out, KnowsW.zero _⟩
    case round =>
      obtain ⟨k, hk, rfl, hb, hu⟩ := hrel
      clear X HB BB x3
      have X := Lib.hid (X0.out.below hb)
      have BB := Lib.hid (below_trans B0.out hb)
      have HB := Lib.hid hb
      have HU := Lib.hid hu
      clear hb hu
      by_cases hlt : k < b.waits.length
      · obtain ⟨p, off, ep, hlb, d0, d1, d2, d3⟩ := Wai.at X.out.book.waits k hlt
        dsimp only at ep
        subst ep
        obtain ⟨V, hV⟩ : ∃ V, wr.alloc (.cells #[.string b.waits[k].who, .string b.waits[k].mill, .int .i64 b.waits[k].amount, .int .i64 b.waits[k].ripe] 77) = V := ⟨_, rfl⟩
        have BV := Lib.hid (below_new wr (.cells #[.string b.waits[k].who, .string b.waits[k].mill, .int .i64 b.waits[k].amount, .int .i64 b.waits[k].ripe] 77))
        have RV := Lib.hid (RecAt.new Wai.cs wr b.waits[k] 77)
        rw [hV] at BV
        rw [show wr.alloc (.cells (b.waits[k].cs).toArray 77) = V from hV] at RV
        have XV := Lib.hid (X.out.below BV.out)
        have HBV := Lib.hid (below_trans HB.out BV.out)
        have BBV := Lib.hid (below_trans BB.out BV.out)
        have r0 := RV.out 0 _ rfl
        have r1 := RV.out 1 _ rfl
        have x0 := XV.out.c0
        have x1 := XV.out.c1
        have x2 := XV.out.c2
        have x3 := XV.out.c3
        dsimp only at x0 x1 x2 x3
        clear hlb
        go_wp2_with fail
        refine (iKnows_any _ _ XV.out.book HL.out HZ.out HF.out HM.out).mono ?_
        rintro e w3 ⟨rfl, hb3⟩
        cases hq : knownB b b.waits[k].who b.waits[k].mill
        · have HN := Lib.hid (knows_w hlt hq)
          have HB3 := Lib.hid (below_trans BBV.out hb3)
          clear hb3
          go_wp2
          go_ret
          exact ⟨by rw [HN.out]; rfl, HB3.out⟩
        have HN := Lib.hid (HU.out.succ hlt hq)
        have HB3 := Lib.hid (below_trans HBV.out hb3)
        clear hb3
        go_wp2
        go_roundw
        case rel => exact ⟨k + 1, by omega, by go_num, HB3.out, HN.out⟩
        case measure => simp [intOf]; omega
      obtain rfl : k = b.waits.length := by omega
      have HN := Lib.hid (knows_yes KP.out HU.out)
      go_wp2
      go_ret
      exact ⟨by rw [HN.out]; rfl, BB.out⟩
end Go.Proofs.YtjlilmcilojkbaaGreat
namespace Go.Proofs.YtjlilmcilojkbaaGreat
open Go.ChangeShapes Go.WideShapes Go.ChangeAt Go.RowKit

set_option maxHeartbeats 8000000 in
set_option maxRecDepth 100000 in
theorem iAllHeld_any {w : World} {b : Bok} {s : Spots} (h : BookAt w b s) (hl : BLen b) (hz : BSized b) :
    Calls Tryz.prog 46 #[.agg #[.slice s.fa b.folk.length s.fc, .slice s.ma b.mills.length s.mc, .slice s.pa b.parts.length s.pc, .slice s.wa b.waits.length s.wc]] w fun e w' => e = .returned (.bool (heldB b)) ∧ Below w.heap.size w w' := by
  obtain ⟨W, hW⟩ : ∃ W, w.alloc (.cells #[.slice s.fa b.folk.length s.fc, .slice s.ma b.mills.length s.mc, .slice s.pa b.parts.length s.pc, .slice s.wa b.waits.length s.wc] 87) = W := ⟨_, rfl⟩
  have X0 := Lib.hid (BoxL.new h 87)
  have B0 := Lib.hid (below_new w (.cells #[.slice s.fa b.folk.length s.fc, .slice s.ma b.mills.length s.mc, .slice s.pa b.parts.length s.pc, .slice s.wa b.waits.length s.wc] 87))
  rw [hW] at X0 B0
  have HL := Lib.hid hl
  have HZ := Lib.hid hz
  have l2 := hl.ml
  have l3 := hl.pl
  clear h hl hz
  have c1 := X0.out.c1
  cases s with | mk fa fc ma mc pa pc wa wc =>
  dsimp only at c1 hW ⊢
  go_enter Tryz.func46, Tryz.ntmps46
  go_wp2
  clear c1
  go_loopw [8] (fun i w' => ∃ k : Nat, k ≤ b.mills.length ∧ i = .int .i64 k ∧ Below W.heap.size W w' ∧ HeldM b k) (fun i _ => b.mills.length - (intOf i).toNat)
  case atStart => exact ⟨0, Nat.zero_le _, rfl, Below.refl _ _, HeldM.zero _⟩
  case round =>
    obtain ⟨k, hk, rfl, hb, hu⟩ := hrel
    have X := Lib.hid (X0.out.below hb)
    have BB := Lib.hid (below_trans B0.out hb)
    have HB := Lib.hid hb
    have HU := Lib.hid hu
    clear hb hu
    by_cases hlt : k < b.mills.length
    · obtain ⟨p, off, ep, hlb, d0, d1, d2, d3, d4⟩ := Mil.at X.out.book.mills k hlt
      dsimp only at ep
      subst ep
      obtain ⟨V, hV⟩ : ∃ V, wr.alloc (.cells #[.string b.mills[k].name, .int .i64 b.mills[k].stake, .int .i64 b.mills[k].shares, .int .i64 b.mills[k].cut, .bool b.mills[k].shut] 48) = V := ⟨_, rfl⟩
      have BV := Lib.hid (below_new wr (.cells #[.string b.mills[k].name, .int .i64 b.mills[k].stake, .int .i64 b.mills[k].shares, .int .i64 b.mills[k].cut, .bool b.mills[k].shut] 48))
      have RV := Lib.hid (RecAt.new Mil.cs wr b.mills[k] 48)
      rw [hV] at BV
      rw [show wr.alloc (.cells (b.mills[k].cs).toArray 48) = V from hV] at RV
      have XV := Lib.hid (X.out.below BV.out)
      have HBV := Lib.hid (below_trans HB.out BV.out)
      have BBV := Lib.hid (below_trans BB.out BV.out)
      have g0 := Grow.cell (RV.out 0 _ rfl)
      have g2 := Grow.cell (RV.out 2 _ rfl)
      have x2 := XV.out.c2
      dsimp only at x2
      have e2 := Grow.cell x2
      clear hlb x2
      obtain ⟨v, hv⟩ : ∃ q, sharesInV b.parts b.mills[k].name = q := ⟨_, rfl⟩
      by_cases n1 : b.mills[k].shares = v
      · have HN := Lib.hid (HU.out.succ hlt (hv.trans n1.symm))
        have hd1 : (b.mills[k].shares != v) = false := by simp [n1]
        have HV := Lib.hid hv
        clear hv n1
        go_wp2
        refine wp_region_grow (by kernel_rfl) (by kernel_rfl) ?_
        repeat (go_big_quiet_step (first | (go_at_call 72; exact grow_call (int_is HV.out) (iSharesInM_any _ _ (XV.out.book.parts.below (Grow.ok _)) (by omega) HZ.out.ps))))
        refine wpQuiet_nil ?_
        intro _ hw'
        obtain ⟨gq, rfl⟩ := hw'
        have HB2 := Lib.hid (below_trans HBV.out gq.ok)
        go_wp2
        go_roundw
        case rel => exact ⟨k + 1, by omega, by go_num, HB2.out, HN.out⟩
        case measure => simp [intOf]; omega
      · have HN := Lib.hid (heldM_no hlt (fun e => n1 (e.symm.trans hv)))
        have hd1 : (b.mills[k].shares != v) = true := by simpa using n1
        have HV := Lib.hid hv
        clear hv
        go_wp2
        refine wp_region_grow (by kernel_rfl) (by kernel_rfl) ?_
        repeat (go_big_quiet_step (first | (go_at_call 72; exact grow_call (int_is HV.out) (iSharesInM_any _ _ (XV.out.book.parts.below (Grow.ok _)) (by omega) HZ.out.ps))))
        refine wpQuiet_nil ?_
        intro _ hw'
        obtain ⟨gq, rfl⟩ := hw'
        have HB2 := Lib.hid (below_trans BBV.out gq.ok)
        go_wp2
        go_ret
        exact ⟨by rw [HN.out]; rfl, HB2.out⟩
    obtain rfl : k = b.mills.length := by omega
    have HN := Lib.hid (heldM_yes HU.out)
    go_wp2
    go_ret
    exact ⟨by rw [HN.out]; rfl, BB.out⟩

theorem lists_range {b : Bok} (h : rangeB b = false) : listsB b = false := by simp [listsB, h]
theorem lists_rights {b : Bok} (h : rightsB b = false) : listsB b = false := by simp [listsB, h]
theorem lists_both {b : Bok} (h : rightsB b = true) (h2 : rangeB b = true) : listsB b = true := by simp [listsB, h, h2]
theorem rights_all {b : Bok} (h : listsB b = true) : freeInV b.folk = sumP b.folk b.folk.length ∧ stakesV b.mills = sumM b.mills b.mills.length ∧ amountInV b.waits = sumA b.waits b.waits.length := by
  obtain ⟨⟨h1, h2, h3, h4⟩, -⟩ := lists_all h
  exact ⟨by simp [freeInV, h1], by simp [stakesV, h2], by simp [amountInV, h4]⟩

set_option maxHeartbeats 8000000 in
set_option maxRecDepth 100000 in
theorem iTotal_any {w : World} {b : Bok} {s : Spots} (h : BookAt w b s) (hl : BLen b) (hz : BSized b) :
    Calls Tryz.prog 44 #[.agg #[.int .i64 b.season, .int .i64 b.supply, .int .i64 b.burnt, .int .i64 b.pot, .slice s.fa b.folk.length s.fc, .slice s.ma b.mills.length s.mc, .slice s.pa b.parts.length s.pc, .slice s.wa b.waits.length s.wc]] w fun e w' => e = .returned (.int .i64 (totalOfV b)) ∧ Below w.heap.size w w' := by
  have X0 := Lib.hid (BoxB.new h 35)
  have B0 := Lib.hid (below_new w (.cells #[.int .i64 b.season, .int .i64 b.supply, .int .i64 b.burnt, .int .i64 b.pot, .slice s.fa b.folk.length s.fc, .slice s.ma b.mills.length s.mc, .slice s.pa b.parts.length s.pc, .slice s.wa b.waits.length s.wc] 35))
  have HL := Lib.hid hl
  have HZ := Lib.hid hz
  clear h hl hz
  go_enter Tryz.func44, Tryz.ntmps44
  go_wp2_with fail
  refine (iLedger_any (b := b) (s := s)).mono ?_
  rintro e w1 ⟨rfl, hb1⟩
  have X1 := Lib.hid (X0.out.below hb1)
  have B1 := Lib.hid (below_trans B0.out hb1)
  obtain ⟨V, hV⟩ : ∃ V, w1.alloc (.cells #[.slice s.fa b.folk.length s.fc, .slice s.ma b.mills.length s.mc, .slice s.pa b.parts.length s.pc, .slice s.wa b.waits.length s.wc] 87) = V := ⟨_, rfl⟩
  have Y := Lib.hid (BoxL.new X1.out.book 87)
  have XV := Lib.hid (X1.out.below (below_new w1 (.cells #[.slice s.fa b.folk.length s.fc, .slice s.ma b.mills.length s.mc, .slice s.pa b.parts.length s.pc, .slice s.wa b.waits.length s.wc] 87)))
  have BV := Lib.hid (below_trans B1.out (below_new w1 (.cells #[.slice s.fa b.folk.length s.fc, .slice s.ma b.mills.length s.mc, .slice s.pa b.parts.length s.pc, .slice s.wa b.waits.length s.wc] 87)))
  rw [hV] at Y XV BV
  clear X0 B0 hb1 X1 B1
  have c0 := XV.out.c0
  have c1 := XV.out.c1
  have c2 := XV.out.c2
  have c3 := XV.out.c3
  have c4 := XV.out.c4
  have c5 := XV.out.c5
  have c6 := XV.out.c6
  have c7 := XV.out.c7
  go_wp2_with fail
  refine (iRange_any (s := s) XV.out.book).mono ?_
  rintro e w2 ⟨rfl, hb2⟩
  have Y2 := Lib.hid (Y.out.below hb2)
  have X2 := Lib.hid (XV.out.below hb2)
  have B2 := Lib.hid (below_trans BV.out hb2)
  clear Y XV BV hb2 c0 c1 c2 c3 c4 c5 c6 c7
  cases h1 : rangeB b
  · have HN := Lib.hid (totalOf_no (lists_range h1))
    go_wp2
    go_ret
    exact ⟨by rw [HN.out]; rfl, B2.out⟩
  have y0 := Y2.out.c0
  have y1 := Y2.out.c1
  have y2 := Y2.out.c2
  have y3 := Y2.out.c3
  go_wp2_with fail
  refine (iRight_any (s := s) X2.out.book HL.out HZ.out).mono ?_
  rintro e w3 ⟨rfl, hb3⟩
  have Y3 := Lib.hid (Y2.out.below hb3)
  have X3 := Lib.hid (X2.out.below hb3)
  have B3 := Lib.hid (below_trans B2.out hb3)
  clear Y2 X2 B2 hb3 y0 y1 y2 y3
  cases h2 : rightsB b
  · have HN := Lib.hid (totalOf_no (lists_rights h2))
    go_wp2
    go_ret
    exact ⟨by rw [HN.out]; rfl, B3.out⟩
  have hf := lists_both h2 h1
  obtain ⟨q1, q2, q3, q4, q5⟩ := total_bd hf
  have HT : Hid (totalV b = sumP b.folk b.folk.length + sumM b.mills b.mills.length + sumA b.waits b.waits.length + b.burnt + b.pot) := rfl
  obtain ⟨a1, a2, a3⟩ := rights_all hf
  obtain ⟨v1, e1⟩ : ∃ v, sumP b.folk b.folk.length = v := ⟨_, rfl⟩
  obtain ⟨v2, e2⟩ : ∃ v, sumM b.mills b.mills.length = v := ⟨_, rfl⟩
  obtain ⟨v3, e3⟩ : ∃ v, sumA b.waits b.waits.length = v := ⟨_, rfl⟩
  rw [e1] at q1 a1
  rw [e2] at q2 a2
  rw [e3] at q3 a3
  rw [e1, e2, e3] at HT
  have HN := Lib.hid ((totalOf_yes hf).trans HT.out)
  have E1 := Lib.hid a1
  have E2 := Lib.hid a2
  have E3 := Lib.hid a3
  clear hf e1 e2 e3 a1 a2 a3 HT h1 h2
  have g2 := Grow.cell X3.out.c2
  have g3 := Grow.cell X3.out.c3
  have y0 := Grow.cell Y3.out.c0
  have y1 := Grow.cell Y3.out.c1
  have y3 := Grow.cell Y3.out.c3
  have s1 : IntKind.i64.wrap (v1 + v2) = v1 + v2 := IntWalk.i64_in _ (by omega)
  have s2 : IntKind.i64.wrap (v1 + v2 + v3) = v1 + v2 + v3 := IntWalk.i64_in _ (by omega)
  have s3 : IntKind.i64.wrap (v1 + v2 + v3 + b.burnt) = v1 + v2 + v3 + b.burnt := IntWalk.i64_in _ (by omega)
  have s4 : IntKind.i64.wrap (v1 + v2 + v3 + b.burnt + b.pot) = v1 + v2 + v3 + b.burnt + b.pot := IntWalk.i64_in _ (by omega)
  go_wp2
  refine wp_region_grow (by kernel_rfl) (by kernel_rfl) ?_
  repeat (go_big_quiet_step (first | (go_at_call 68; exact grow_call (int_is E1.out) (iFree_any _ (X3.out.book.folk.below (Grow.ok _)) HL.out.fl HZ.out.fs)) | (go_at_call 69; exact grow_call (int_is E2.out) (iStaked_any _ (X3.out.book.mills.below (Grow.ok _)) (by have := HL.out.ml; omega) HZ.out.ms)) | (go_at_call 70; exact grow_call (int_is E3.out) (iWaitingM_any _ (X3.out.book.waits.below (Grow.ok _)) (by have := HL.out.wl; omega) HZ.out.ws))))
  refine wpQuiet_nil ?_
  intro _ hw'
  obtain ⟨gq, rfl⟩ := hw'
  have HB2 := Lib.hid (below_trans B3.out gq.ok)
  go_wp2
  go_ret
  exact ⟨by rw [HN.out]; rfl, HB2.out⟩

theorem range_sup {b : Bok} (h : rangeB b = true) : 0 ≤ b.supply := by
  have : inB 0 1000000 b.supply = true := by
    simp only [rangeB, Bool.and_eq_true] at h
    exact h.2.1
  exact (inB_bd this).1
theorem book_range {b : Bok} (h : rangeB b = false) : bookB b = false := book_l (lists_range h)
theorem book_total {b : Bok} (h2 : (totalOfV b == b.supply) = false) : bookB b = false := by
  cases hl : listsB b
  · exact book_l hl
  · rw [totalOf_yes hl] at h2; exact book_s h2
theorem total_lists {b : Bok} (h : rangeB b = true) (h2 : (totalOfV b == b.supply) = true) : listsB b = true ∧ (totalV b == b.supply) = true := by
  cases hl : listsB b
  · have h3 := range_sup h
    rw [totalOf_no hl] at h2
    have : (-1 : Int) = b.supply := by simpa using h2
    omega
  · exact ⟨rfl, by rw [totalOf_yes hl] at h2; exact h2⟩

set_option maxHeartbeats 8000000 in
set_option maxRecDepth 100000 in
theorem iBookOk_any {w : World} {b : Bok} {s : Spots} (h : BookAt w b s) (hl : BLen b) (hz : BSized b) :
    Calls Tryz.prog 22 #[.agg #[.int .i64 b.season, .int .i64 b.supply, .int .i64 b.burnt, .int .i64 b.pot, .slice s.fa b.folk.length s.fc, .slice s.ma b.mills.length s.mc, .slice s.pa b.parts.length s.pc, .slice s.wa b.waits.length s.wc]] w fun e w' => e = .returned (.bool (bookB b)) ∧ Below w.heap.size w w' := by
  have X0 := Lib.hid (BoxB.new h 35)
  have B0 := Lib.hid (below_new w (.cells #[.int .i64 b.season, .int .i64 b.supply, .int .i64 b.burnt, .int .i64 b.pot, .slice s.fa b.folk.length s.fc, .slice s.ma b.mills.length s.mc, .slice s.pa b.parts.length s.pc, .slice s.wa b.waits.length s.wc] 35))
  have HL := Lib.hid hl
  have HZ := Lib.hid hz
  clear h hl hz
  go_enter Tryz.func22, Tryz.ntmps22
  go_wp2_with fail
  refine (iLedger_any (b := b) (s := s)).mono ?_
  rintro e w1 ⟨rfl, hb1⟩
  have X1 := Lib.hid (X0.out.below hb1)
  have B1 := Lib.hid (below_trans B0.out hb1)
  obtain ⟨V, hV⟩ : ∃ V, w1.alloc (.cells #[.slice s.fa b.folk.length s.fc, .slice s.ma b.mills.length s.mc, .slice s.pa b.parts.length s.pc, .slice s.wa b.waits.length s.wc] 87) = V := ⟨_, rfl⟩
  have Y := Lib.hid (BoxL.new X1.out.book 87)
  have XV := Lib.hid (X1.out.below (below_new w1 (.cells #[.slice s.fa b.folk.length s.fc, .slice s.ma b.mills.length s.mc, .slice s.pa b.parts.length s.pc, .slice s.wa b.waits.length s.wc] 87)))
  have BV := Lib.hid (below_trans B1.out (below_new w1 (.cells #[.slice s.fa b.folk.length s.fc, .slice s.ma b.mills.length s.mc, .slice s.pa b.parts.length s.pc, .slice s.wa b.waits.length s.wc] 87)))
  rw [hV] at Y XV BV
  clear X0 B0 hb1 X1 B1
  have g0 := Grow.cell XV.out.c0
  have g1 := Grow.cell XV.out.c1
  have g2 := Grow.cell XV.out.c2
  have g3 := Grow.cell XV.out.c3
  have g4 := Grow.cell XV.out.c4
  have g5 := Grow.cell XV.out.c5
  have g6 := Grow.cell XV.out.c6
  have g7 := Grow.cell XV.out.c7
  have y0 := Grow.cell Y.out.c0
  have y1 := Grow.cell Y.out.c1
  have y2 := Grow.cell Y.out.c2
  have y3 := Grow.cell Y.out.c3
  cases h1 : rangeB b
  · have HN := Lib.hid (book_range h1)
    go_wp2
    refine wp_region_grow (by kernel_rfl) (by kernel_rfl) ?_
    repeat (go_big_quiet_step (first | (go_at_call 43; exact grow_call (bool_is h1) (iRange_any (s := s) (XV.out.book.below (Grow.ok _))))))
    refine wpQuiet_nil ?_
    intro _ hw'
    obtain ⟨gq, rfl⟩ := hw'
    have HB2 := Lib.hid (below_trans BV.out gq.ok)
    go_wp2
    go_ret
    exact ⟨by rw [HN.out]; rfl, HB2.out⟩
  cases h2 : (totalOfV b == b.supply)
  · have HN := Lib.hid (book_total h2)
    go_wp2
    refine wp_region_grow (by kernel_rfl) (by kernel_rfl) ?_
    repeat (go_big_quiet_step (first | (go_at_call 43; exact grow_call (bool_is h1) (iRange_any (s := s) (XV.out.book.below (Grow.ok _)))) | (go_at_call 44; exact grow_call rfl (iTotal_any (s := s) (XV.out.book.below (Grow.ok _)) HL.out HZ.out))))
    refine wpQuiet_nil ?_
    intro _ hw'
    obtain ⟨gq, rfl⟩ := hw'
    have HB2 := Lib.hid (below_trans BV.out gq.ok)
    go_wp2
    go_ret
    exact ⟨by rw [HN.out]; rfl, HB2.out⟩
  obtain ⟨hls, hts⟩ := total_lists h1 h2
  have HF := Lib.hid (lists_all hls).1
  have HTB := Lib.hid (there_both b)
  cases h3 : knowsB b
  · have HN := Lib.hid (show bookB b = false from book_t (by rw [HTB.out, h3]; rfl))
    clear hls hts
    go_wp2
    refine wp_region_grow (by kernel_rfl) (by kernel_rfl) ?_
    repeat (go_big_quiet_step (first | (go_at_call 43; exact grow_call (bool_is h1) (iRange_any (s := s) (XV.out.book.below (Grow.ok _)))) | (go_at_call 44; exact grow_call rfl (iTotal_any (s := s) (XV.out.book.below (Grow.ok _)) HL.out HZ.out)) | (go_at_call 45; exact grow_call (bool_is h3) (iKnowsAll_any (s := s) (XV.out.book.below (Grow.ok _)) HL.out HZ.out HF.out.1 HF.out.2.1))))
    refine wpQuiet_nil ?_
    intro _ hw'
    obtain ⟨gq, rfl⟩ := hw'
    have HB2 := Lib.hid (below_trans BV.out gq.ok)
    go_wp2
    go_ret
    exact ⟨by rw [HN.out]; rfl, HB2.out⟩
  have HN := Lib.hid (show bookB b = heldB b by unfold bookB; rw [hls, hts, HTB.out, h3]; simp)
  clear hls hts
  go_wp2
  refine wp_region_grow (by kernel_rfl) (by kernel_rfl) ?_
  repeat (go_big_quiet_step (first | (go_at_call 43; exact grow_call (bool_is h1) (iRange_any (s := s) (XV.out.book.below (Grow.ok _)))) | (go_at_call 44; exact grow_call rfl (iTotal_any (s := s) (XV.out.book.below (Grow.ok _)) HL.out HZ.out)) | (go_at_call 45; exact grow_call (bool_is h3) (iKnowsAll_any (s := s) (XV.out.book.below (Grow.ok _)) HL.out HZ.out HF.out.1 HF.out.2.1)) | (go_at_call 46; exact grow_call rfl (iAllHeld_any (s := s) (XV.out.book.below (Grow.ok _)) HL.out HZ.out))))
  refine wpQuiet_nil ?_
  intro _ hw'
  obtain ⟨gq, rfl⟩ := hw'
  have HB2 := Lib.hid (below_trans BV.out gq.ok)
  go_wp2
  go_ret
  exact ⟨by rw [HN.out]; rfl, HB2.out⟩
end Go.Proofs.YtjlilmcilojkbaaGreat
namespace Go.Proofs.YtjlilmcilojkbaaGreat
open Go.ChangeShapes Go.WideShapes Go.ChangeAt Go.RowKit

theorem sumA_map (xs : List Wai) : ∀ k, k ≤ xs.length → sumA xs k = WS (xs.take k)
  | 0, _ => by simp [sumA, WS]
  | k + 1, h => by
    rw [sumA, sumA_map xs k (by omega), watn_eq (by omega), List.take_succ_eq_append_getElem (by omega), WS_more]
theorem amount_for {ps : List Wai} (who : ByteArray) (hf : waitsB ps = true) : amountInV (waitsForV ps who) = WS (ofWhoW who ps) := by
  have h1 : waitsForV ps who = ofWhoW who ps := by simp [waitsForV, hf]
  have h2 : waitsB (ofWhoW who ps) = true := sub_waits hf List.filter_sublist
  rw [h1]
  simp only [amountInV, h2, if_true]
  rw [sumA_map _ _ (Nat.le_refl _), List.take_length]
theorem waitsFor_mem {ps : List Wai} {who : ByteArray} {p : Wai} (h : p ∈ waitsForV ps who) : p ∈ ps := by
  unfold waitsForV at h
  split at h
  · exact (List.mem_filter.1 h).1
  · simp at h
theorem wsized_for {ps : List Wai} (who : ByteArray) (hs : WSized ps) : WSized (waitsForV ps who) := by
  intro k hk
  obtain ⟨j, hj, e⟩ := List.getElem_of_mem (waitsFor_mem (List.getElem_mem hk))
  rw [← e]; exact hs j hj

theorem millIn_sized {ms : List Mil} (s : ByteArray) (hs : Sized (mnames ms)) : (millInV ms s).name.size ≤ maxLen := by
  unfold millInV
  split
  · rename_i h
    have hp : 0 ≤ placeV (mnames ms) s := by simp only [millInB, Bool.and_eq_true, decide_eq_true_eq] at h; exact h.2
    obtain ⟨k, e, hk, -⟩ := place_hit hp
    rw [len_mn] at hk
    have h2 := hs k
    rw [mnames_at hk] at h2
    rw [e, show ((k : Int)).toNat = k by omega, getD_mil hk]
    exact h2
  · simp [mil0, maxLen]

theorem bsized_of {b : Bok} (h : BFits b) : BSized b :=
  ⟨Sized.of (n := 9223372036854775807) (fun s hs => by obtain ⟨p, hp, rfl⟩ := List.mem_map.1 hs; exact h.fs p hp) (by unfold maxLen; omega),
   Sized.of (n := 9223372036854775807) (fun s hs => by obtain ⟨p, hp, rfl⟩ := List.mem_map.1 hs; exact h.ms p hp) (by unfold maxLen; omega),
   fun k hk => by have := h.ps _ (List.getElem_mem hk); simp only [Par.fits] at this; unfold maxLen; omega,
   fun k hk => by have := h.ws _ (List.getElem_mem hk); simp only [Wai.fits] at this; unfold maxLen; omega⟩
end Go.Proofs.YtjlilmcilojkbaaGreat
namespace Go.Proofs.YtjlilmcilojkbaaGreat
open Go.ChangeShapes Go.WideShapes Go.ChangeAt Go.RowKit
theorem partV_big {n p : Int} (h : 1000000 < n) : partV n p = -1 := by simp [partV, inB]; omega
theorem lists_mills {b : Bok} (h : bookB b = true) : millsB b.mills = true := (lists_all (book_true h).1).1.2.1
theorem cutOf_small {b : Bok} {mill : ByteArray} {n : Int} (h : n < 1) : cutOfV b mill n = -1 :=
  cutOf_no (fun q => by have := q.2.2; simp [inB] at this; omega)
theorem cutOf_none {b : Bok} {mill : ByteArray} {n : Int} (h : millInB b.mills mill = false) : cutOfV b mill n = -1 :=
  cutOf_no (fun q => by simp [millInB, lists_mills q.1, q.2.1] at h)
theorem cutOf_wrong {b : Bok} {mill : ByteArray} {n : Int} (h : bookB b = false) : cutOfV b mill n = -1 :=
  cutOf_no (fun q => by rw [h] at q; exact absurd q.1 (by simp))
/-- The program asks the least amount itself, and leaves the greatest to PartOf. -/
theorem cutOf_part {b : Bok} {mill : ByteArray} {n : Int} (h : bookB b = true) (h1 : millInB b.mills mill = true) (hn : ¬ n < 1) : cutOfV b mill n = partV n (millInV b.mills mill).cut := by
  by_cases hb : 1000000 < n
  · rw [partV_big hb]; exact cutOf_no (fun q => by have := q.2.2; simp [inB] at this; omega)
  have h2 := h1
  simp only [millInB, Bool.and_eq_true, decide_eq_true_eq] at h2
  obtain ⟨k, e, hk, -⟩ := place_hit h2.2
  rw [len_mn] at hk
  rw [cutOf_in h e hk (by simp [inB]; omega), (millIn_in h2.1 e hk).2]

set_option maxHeartbeats 8000000 in
set_option maxRecDepth 100000 in
theorem iCutOf_any {w : World} {b : Bok} {s : Spots} (mill : ByteArray) (n : Int) (h : BookAt w b s) (hl : BLen b) (hz : BSized b) :
    Calls Tryz.prog 7 #[.agg #[.int .i64 b.season, .int .i64 b.supply, .int .i64 b.burnt, .int .i64 b.pot, .slice s.fa b.folk.length s.fc, .slice s.ma b.mills.length s.mc, .slice s.pa b.parts.length s.pc, .slice s.wa b.waits.length s.wc], .string mill, .int .i64 n] w fun e w' => e = .returned (.int .i64 (cutOfV b mill n)) ∧ Below w.heap.size w w' := by
  obtain ⟨W, hW⟩ : ∃ W, w.alloc (.cells #[.int .i64 b.season, .int .i64 b.supply, .int .i64 b.burnt, .int .i64 b.pot, .slice s.fa b.folk.length s.fc, .slice s.ma b.mills.length s.mc, .slice s.pa b.parts.length s.pc, .slice s.wa b.waits.length s.wc] 35) = W := ⟨_, rfl⟩
  have X0 := Lib.hid (BoxB.new h 35)
  have B0 := Lib.hid (below_new w (.cells #[.int .i64 b.season, .int .i64 b.supply, .int .i64 b.burnt, .int .i64 b.pot, .slice s.fa b.folk.length s.fc, .slice s.ma b.mills.length s.mc, .slice s.pa b.parts.length s.pc, .slice s.wa b.waits.length s.wc] 35))
  rw [hW] at X0 B0
  have HL := Lib.hid hl
  have HZ := Lib.hid hz
  have l2 := hl.ml
  clear h hl hz
  have c5 := X0.out.c5
  go_enter Tryz.func7, Tryz.ntmps7
  go_wp2_with fail
  refine (iMillIn_any _ _ X0.out.book.mills (by omega) HZ.out.ms).mono ?_
  obtain ⟨m, HM⟩ : ∃ x, Hid (millInV b.mills mill = x) := ⟨_, Lib.hid rfl⟩
  obtain ⟨ok, HO⟩ : ∃ x, Hid (millInB b.mills mill = x) := ⟨_, Lib.hid rfl⟩
  rw [HM.out, HO.out]
  rintro e w1 ⟨rfl, hb1⟩
  have X1 := Lib.hid (X0.out.below hb1)
  have B1 := Lib.hid (below_trans B0.out hb1)
  clear hb1 c5 X0 B0
  obtain ⟨V, hV⟩ : ∃ V, w1.alloc (.cells #[.string m.name, .int .i64 m.stake, .int .i64 m.shares, .int .i64 m.cut, .bool m.shut] 48) = V := ⟨_, rfl⟩
  have RV := Lib.hid (RecAt.new Mil.cs w1 m 48)
  have X2 := Lib.hid (X1.out.below (below_new w1 (.cells #[.string m.name, .int .i64 m.stake, .int .i64 m.shares, .int .i64 m.cut, .bool m.shut] 48)))
  have B2 := Lib.hid (below_trans B1.out (below_new w1 (.cells #[.string m.name, .int .i64 m.stake, .int .i64 m.shares, .int .i64 m.cut, .bool m.shut] 48)))
  rw [hV] at X2 B2
  rw [show w1.alloc (.cells m.cs.toArray 48) = V from hV] at RV
  clear X1 B1
  cases ok
  · have HN := Lib.hid (cutOf_none (n := n) HO.out)
    go_wp2
    go_ret
    exact ⟨by rw [HN.out]; rfl, B2.out⟩
  by_cases hn : n < 1
  · have HN := Lib.hid (cutOf_small (b := b) (mill := mill) hn)
    go_wp2
    go_ret
    exact ⟨by rw [HN.out]; rfl, B2.out⟩
  have c0 := X2.out.c0
  have c1 := X2.out.c1
  have c2 := X2.out.c2
  have c3 := X2.out.c3
  have c4 := X2.out.c4
  have c5 := X2.out.c5
  have c6 := X2.out.c6
  have c7 := X2.out.c7
  go_wp2_with fail
  refine (iBookOk_any (s := s) X2.out.book HL.out HZ.out).mono ?_
  rintro e w2 ⟨rfl, hb2⟩
  have B3 := Lib.hid (below_trans B2.out hb2)
  have R2 := Lib.hid (RV.out.below hb2)
  clear hb2 c0 c1 c2 c3 c4 c5 c6 c7 X2 B2 RV
  cases h1 : bookB b
  · have HN := Lib.hid (cutOf_wrong (mill := mill) (n := n) h1)
    go_wp2
    go_ret
    exact ⟨by rw [HN.out]; rfl, B3.out⟩
  have HN := Lib.hid (cutOf_part (n := n) h1 HO.out (by omega))
  rw [HM.out] at HN
  have m3 := R2.out 3 _ rfl
  go_wp2_with fail
  refine (iPartOf_any _ _ _).mono ?_
  rintro e w3 ⟨rfl, hf⟩
  have B4 := Lib.hid (below_trans B3.out hf.1)
  clear hf
  go_wp2
  go_ret
  exact ⟨by rw [HN.out]; rfl, B4.out⟩
end Go.Proofs.YtjlilmcilojkbaaGreat
namespace Go.Proofs.YtjlilmcilojkbaaGreat
open Go.ChangeShapes Go.WideShapes Go.ChangeAt Go.RowKit

set_option maxRecDepth 100000 in
theorem laidOut : laidOutB Tryz.prog = true := by kernel_rfl
set_option maxRecDepth 100000 in
theorem ownKnobNone : ownKnob Tryz.prog.godebug = none := by kernel_rfl

set_option maxRecDepth 100000 in
theorem arg_strs {H : Type} {enc : TypeId × Value → H} {W : World} {r : Reach} {base : Nat} {v : Value} {d : DataW H} {p : List MemPlace}
    (hv : Value.okWide Tryz.prog W r base 106 v) (h : DataW.Trod enc Tryz.prog W 0 (fun _ => true) true 106 v d p) :
    ∃ a cap ss, v = .slice a ss.length cap ∧ Strs W a ss ∧ ss.length ≤ 9223372036854775807 ∧ ∀ s ∈ ss, s.size ≤ 9223372036854775807 := by
  obtain ⟨a0, len, cap, rfl⟩ := okWide_slice Tryz.underlying106 hv
  obtain ⟨fuel, hf⟩ := h
  rcases open_strings Tryz.underlying106 Tryz.underlying9 (by kernel_rfl) hf with ⟨hcs, _⟩ | ⟨x, l, c, ss, hcs, _, hl, hm, hz, _, hcell, hsz⟩
  · simp [Value.cells] at hcs
    obtain ⟨rfl, rfl, rfl⟩ := hcs
    exact ⟨none, 0, [], rfl, Lies.nil _ _, by simp, by simp⟩
  · simp [Value.cells] at hcs
    obtain ⟨rfl, rfl, rfl⟩ := hcs
    simp only [if_true] at hz
    have hlen : (ss.take len).length = len := by simp; omega
    refine ⟨some x, cap, ss.take len, by rw [hlen], ?_, ?_, fun s hs => ?_⟩
    · intro k v hk
      have hkl : k < (ss.take len).length := by
        have := (List.getElem?_eq_some_iff.1 hk).1
        simpa using this
      have hks : k < ss.length := by omega
      have hv : v = .string (ss.getD k ByteArray.empty) := by
        rw [List.getElem?_map, List.getElem?_take_of_lt (by omega), List.getElem?_eq_getElem hks] at hk
        simp only [Option.map_some, Option.some.injEq] at hk
        rw [← hk, List.getD_eq_getElem?_getD, List.getElem?_eq_getElem hks, Option.getD_some]
      subst hv
      obtain ⟨b, off, spot⟩ := x
      have hc := hcell k hks
      have h0 := hcell 0 (by omega)
      have hspot : spot = none := by simpa [Addr.add] using World.cell?_spot h0
      subst hspot
      exact ⟨b, off, rfl, by rw [← Go.WideShapes.add_plain]; exact hc⟩
    · rw [hlen]; unfold maxLen at hm; omega
    · have := hsz s (List.mem_of_mem_take hs); unfold maxLen at this; omega
end Go.Proofs.YtjlilmcilojkbaaGreat
namespace Go.Proofs.YtjlilmcilojkbaaGreat
open Go.ChangeShapes Go.WideShapes Go.ChangeAt Go.RowKit

set_option maxRecDepth 100000 in
theorem list_of (n : Nat) (f : Nat → Pur) : ∃ ps : List Pur, ps.length = n ∧ ∀ k (h : k < ps.length), ps[k] = f k :=
  ⟨(List.range n).map f, by simp, fun k h => by simp⟩

set_option maxRecDepth 100000 in
theorem pcells_cases : ∀ (ps : List Pur) (j : Nat) (v : Value), (pcells ps)[j]? = some v → ∃ k, ∃ h : k < ps.length, (j = k * 2 ∧ v = .string ps[k].name) ∨ (j = k * 2 + 1 ∧ v = .int .i64 ps[k].free)
  | [], j, v, h => by simp [pcells] at h
  | p :: r, 0, v, h => ⟨0, by simp, .inl ⟨rfl, by simpa [pcells] using h.symm⟩⟩
  | p :: r, 1, v, h => ⟨0, by simp, .inr ⟨rfl, by simpa [pcells] using h.symm⟩⟩
  | p :: r, j + 2, v, h => by
    obtain ⟨k, hk, hh⟩ := pcells_cases r j v (by simpa [pcells] using h)
    refine ⟨k + 1, by simpa using hk, ?_⟩
    rcases hh with ⟨rfl, rfl⟩ | ⟨rfl, rfl⟩
    · exact .inl ⟨by omega, by simp⟩
    · exact .inr ⟨by omega, by simp⟩

set_option maxRecDepth 100000 in
theorem purs_mk {w : World} {b off : Nat} {ps : List Pur} (h : ∀ k (h : k < ps.length), w.cell? ⟨b, off + k * 2, none⟩ = some (.string ps[k].name) ∧ w.cell? ⟨b, off + (k * 2 + 1), none⟩ = some (.int .i64 ps[k].free)) : Purs w (some ⟨b, off, none⟩) ps := by
  intro j v hj
  obtain ⟨k, hk, hh⟩ := pcells_cases ps j v hj
  refine ⟨b, off, rfl, ?_⟩
  rcases hh with ⟨rfl, rfl⟩ | ⟨rfl, rfl⟩
  · exact (h k hk).1
  · exact (h k hk).2

set_option maxRecDepth 100000 in
theorem arg_purs {H : Type} {enc : TypeId × Value → H} {W : World} {r : Reach} {base : Nat} {v : Value} {d : DataW H} {p : List MemPlace}
    (hv : Value.okWide Tryz.prog W r base 22 v) (h : DataW.Trod enc Tryz.prog W 0 (fun _ => true) true 22 v d p) :
    ∃ a cap ps, v = .slice a ps.length cap ∧ Purs W a ps ∧ ps.length ≤ 9223372036854775807 ∧ ∀ p ∈ ps, p.name.size ≤ 9223372036854775807 := by
  obtain ⟨a0, len, cap, rfl⟩ := okWide_slice Tryz.underlying22 hv
  obtain ⟨fuel, hf⟩ := h
  rcases Go.Deep.open_slice_pairs Tryz.underlying22 Tryz.underlying61 (by kernel_rfl) rfl rfl (by kernel_rfl) (by kernel_rfl) hf with ⟨hcs, _⟩ | ⟨x, l, c, m, n, V0, V1, D0, D1, P0, P1, hcs, _, hl, hm, hmm, _, hi⟩
  · simp [Value.cells] at hcs
    obtain ⟨rfl, rfl, rfl⟩ := hcs
    exact ⟨none, 0, [], rfl, Lies.nil _ _, by simp, by simp⟩
  · simp [Value.cells] at hcs
    obtain ⟨rfl, rfl, rfl⟩ := hcs
    simp only [if_true] at hmm
    subst hmm
    have hall : ∀ i, i < len → ∃ s z, V0 i = .string s ∧ V1 i = .int .i64 z ∧ s.size ≤ maxLen := by
      intro i hlt
      obtain ⟨_, _, h0, h1⟩ := hi i (by omega)
      obtain ⟨s, es, _, hs⟩ := DataW.trod_string Tryz.underlying9 h0
      obtain ⟨z, ez, _, _⟩ := DataW.trod_int Tryz.underlying2 h1
      exact ⟨s, z, by simpa using es, by simpa using ez, hs⟩
    have hch : ∃ f : Nat → Pur, ∀ i, i < len → V0 i = .string (f i).name ∧ V1 i = .int .i64 (f i).free ∧ (f i).name.size ≤ maxLen := by
      refine ⟨fun i => if hlt : i < len then ⟨(hall i hlt).choose, (hall i hlt).choose_spec.choose⟩ else ⟨ByteArray.empty, 0⟩, fun i hlt => ?_⟩
      simp only [hlt, dite_true]
      exact (hall i hlt).choose_spec.choose_spec
    obtain ⟨f, hfi⟩ := hch
    obtain ⟨ps, hlen, hps⟩ := list_of len f
    refine ⟨some x, m, ps, by rw [hlen], ?_, ?_, ?_⟩
    · obtain ⟨b, off, spot⟩ := x
      by_cases h0 : 0 < len
      · have hc0 := (hi 0 (by omega)).1
        have hspot : spot = none := by simpa [Addr.add] using World.cell?_spot hc0
        subst hspot
        refine purs_mk fun k hk => ?_
        obtain ⟨e0, e1, _, _⟩ := hi k (by omega)
        obtain ⟨g0, g1, _⟩ := hfi k (by omega)
        rw [hps k hk, ← g0, ← g1]
        rw [Go.WideShapes.add_plain] at e0 e1
        exact ⟨e0, e1⟩
      · have : ps = [] := List.eq_nil_of_length_eq_zero (by omega)
        subst this
        exact Lies.nil _ _
    · rw [hlen]; unfold maxLen at hm; omega
    · intro p hp
      obtain ⟨k, hk, rfl⟩ := List.getElem_of_mem hp
      rw [hps k hk]
      have := (hfi k (by omega)).2.2
      unfold maxLen at this; omega
end Go.Proofs.YtjlilmcilojkbaaGreat
namespace Go.Proofs.YtjlilmcilojkbaaGreat
open Go.ChangeShapes Go.WideShapes Go.ChangeAt Go.RowKit

section
variable {H : Type} {enc : TypeId × Value → H} {W : World}

set_option maxRecDepth 100000 in
/-- A record whose fields are of one cell each: each cell reads by its field's type. -/
theorem rec_fields {P : Program} {t : TypeId} {fs : Array Field} {fuel : Nat} {cs : List Value} {x : DataW H × List MemPlace} (hs : P.underlying t = some (.struct fs)) (hone : Go.Deep.oneCellFields P fs = true) (hC : P.cellsOf t = fs.size)
    (h : DataW.trod enc P W 0 (fun _ => true) true fuel t cs = some x) :
    cs.length = fs.size ∧ ∃ n, ∀ (j : Nat) (f : Field), fs[j]? = some f → ∃ v y, cs[j]? = some v ∧ DataW.trod enc P W 0 (fun _ => true) true n f.type [v] = some y := by
  obtain ⟨xs, n, _, _, hl, hxl, hf⟩ := DataW.trod_struct hs h
  rw [hC] at hl
  refine ⟨hl, n, fun j f hj => ?_⟩
  obtain ⟨ho, hk⟩ := Go.Deep.hone_of hone j f hj
  have hjl : j < fs.size := (Array.getElem?_eq_some_iff.1 hj).1
  have hjc : j < cs.length := by omega
  have hjx : j < xs.length := by omega
  have h1 := hf j f hj
  rw [ho, hk, List.drop_eq_getElem_cons hjc, List.take_succ_cons, List.take_zero] at h1
  exact ⟨cs[j], xs[j], List.getElem?_eq_getElem hjc, by rw [h1]; exact List.getElem?_eq_getElem hjx⟩

set_option maxRecDepth 100000 in
theorem list_choose {α : Type} {Q : Nat → α → Prop} : ∀ (n : Nat), (∀ i, i < n → ∃ x, Q i x) → ∃ xs : List α, xs.length = n ∧ ∀ k (h : k < xs.length), Q k xs[k]
  | 0, _ => ⟨[], rfl, fun k h => by simp at h⟩
  | n + 1, h => by
    obtain ⟨xs, hl, hq⟩ := list_choose n (fun i hi => h i (by omega))
    obtain ⟨x, hx⟩ := h n (by omega)
    refine ⟨xs ++ [x], by simp [hl], fun k hk => ?_⟩
    by_cases e : k < xs.length
    · rw [List.getElem_append_left e]; exact hq k e
    · have : k = xs.length := by simp at hk; omega
      subst this
      rw [List.getElem_append_right (Nat.le_refl _)]
      simp only [Nat.sub_self, List.getElem_cons_zero, hl]
      exact hx

set_option maxRecDepth 100000 in
/-- A list of records. -/
theorem arg_recs {α : Type} {f : α → List Value} {c : Nat} {Z : α → Prop} {P : Program} {t e : TypeId} {r : Reach} {b0 : Nat} {v : Value} {d : DataW H} {p : List MemPlace}
    (ht : P.underlying t = some (.slice e)) (hC : P.cellsOf e = c) (hc : ∀ x, (f x).length = c) (h0 : 0 < c)
    (each : ∀ fuel cs x, DataW.trod enc P W 0 (fun _ => true) true fuel e cs = some x → ∃ r : α, cs = f r ∧ Z r)
    (hv : Value.okWide P W r b0 t v) (h : DataW.Trod enc P W 0 (fun _ => true) true t v d p) :
    ∃ a cap xs, v = .slice a xs.length cap ∧ Recs f W a xs ∧ xs.length ≤ 9223372036854775807 ∧ ∀ x ∈ xs, Z x := by
  obtain ⟨a0, len, cap, rfl⟩ := okWide_slice ht hv
  obtain ⟨fuel, hf⟩ := h
  rcases Go.Deep.open_slice ht hf with ⟨hcs, _⟩ | ⟨ad, l, cc, m, n, D, Pl, hcs, _, hl, hm, hmm, _, hi⟩
  · simp [Value.cells] at hcs
    obtain ⟨rfl, rfl, rfl⟩ := hcs
    exact ⟨none, 0, [], rfl, Lies.nil _ _, by simp, by simp⟩
  · simp [Value.cells] at hcs
    obtain ⟨rfl, rfl, rfl⟩ := hcs
    simp only [if_true] at hmm
    subst hmm
    have hall : ∀ i, i < len → ∃ x : α, (∀ j v, (f x)[j]? = some v → W.cell? (ad.add (i * c + j)) = some v) ∧ Z x := by
      intro i hlt
      obtain ⟨cs', hcells, htr⟩ := hi i (by omega)
      obtain ⟨x, rfl, hz⟩ := each _ _ _ htr
      obtain ⟨_, hlen, hat⟩ := World.cells?_some hcells
      refine ⟨x, fun j v hj => ?_, hz⟩
      have hjl : j < P.cellsOf e := by rw [← hlen]; exact (List.getElem?_eq_some_iff.1 hj).1
      have := hat j hjl
      rw [hj, hC, Go.Deep.add_add] at this
      exact this
    obtain ⟨xs, hxl, hxs⟩ := list_choose len hall
    refine ⟨some ad, m, xs, by rw [hxl], ?_, ?_, ?_⟩
    · obtain ⟨b, off, spot⟩ := ad
      by_cases hpos : 0 < len
      · have hk0 : 0 < xs.length := by omega
        have hfl : 0 < (f xs[0]).length := by rw [hc]; exact h0
        have hc0 := (hxs 0 hk0).1 0 (f xs[0])[0] (List.getElem?_eq_getElem hfl)
        have hspot : spot = none := by simpa [Addr.add] using World.cell?_spot hc0
        subst hspot
        refine Recs.mk hc fun k hk j v hj => ?_
        have := (hxs k hk).1 j v hj
        rw [Go.WideShapes.add_plain] at this
        exact this
      · have : xs = [] := List.eq_nil_of_length_eq_zero (by omega)
        subst this
        exact Lies.nil _ _
    · rw [hxl]; unfold maxLen at hm; omega
    · intro x hx
      obtain ⟨k, hk, rfl⟩ := List.getElem_of_mem hx
      exact (hxs k hk).2

set_option maxRecDepth 100000 in
/-- A record by value. -/
theorem arg_rec {α : Type} {f : α → List Value} {Z : α → Prop} {P : Program} {t : TypeId} {fs : Array Field} {r : Reach} {b0 : Nat} {v : Value} {d : DataW H} {p : List MemPlace}
    (ht : P.underlying t = some (.struct fs)) (each : ∀ fuel cs x, DataW.trod enc P W 0 (fun _ => true) true fuel t cs = some x → ∃ r : α, cs = f r ∧ Z r)
    (hv : Value.okWide P W r b0 t v) (h : DataW.Trod enc P W 0 (fun _ => true) true t v d p) : ∃ x, v = .agg (f x).toArray ∧ Z x := by
  obtain ⟨cs, rfl, hsz⟩ := okWide_struct ht hv
  obtain ⟨fuel, hf⟩ := h
  obtain ⟨x, e, hz⟩ := each _ _ _ hf
  refine ⟨x, ?_, hz⟩
  rw [← e]
  simp [Value.cells]
end
end Go.Proofs.YtjlilmcilojkbaaGreat
namespace Go.Proofs.YtjlilmcilojkbaaGreat
open Go.ChangeShapes Go.WideShapes Go.ChangeAt Go.RowKit


set_option maxRecDepth 100000 in
theorem each_Mill {H : Type} {enc : TypeId × Value → H} {W : World} (fuel : Nat) (cs : List Value) (x : DataW H × List MemPlace) (h : DataW.trod enc Tryz.prog W 0 (fun _ => true) true fuel 63 cs = some x) : ∃ r : Mil, cs = r.cs ∧ r.fits := by
  obtain ⟨hl, n, hf⟩ := rec_fields Tryz.underlying63 (by kernel_rfl) (by kernel_rfl) h
  match cs, hl with
  | [c0, c1, c2, c3, c4], _ =>
    obtain ⟨u0, y0, e0, t0⟩ := hf 0 _ rfl
    injection e0 with e0; subst e0
    obtain ⟨v0, g0, _, s0⟩ := DataW.trod_string Tryz.underlying9 t0
    injection g0 with g0 _; subst g0
    obtain ⟨u1, y1, e1, t1⟩ := hf 1 _ rfl
    injection e1 with e1; subst e1
    obtain ⟨v1, g1, _, _⟩ := DataW.trod_int Tryz.underlying2 t1
    injection g1 with g1 _; subst g1
    obtain ⟨u2, y2, e2, t2⟩ := hf 2 _ rfl
    injection e2 with e2; subst e2
    obtain ⟨v2, g2, _, _⟩ := DataW.trod_int Tryz.underlying2 t2
    injection g2 with g2 _; subst g2
    obtain ⟨u3, y3, e3, t3⟩ := hf 3 _ rfl
    injection e3 with e3; subst e3
    obtain ⟨v3, g3, _, _⟩ := DataW.trod_int Tryz.underlying2 t3
    injection g3 with g3 _; subst g3
    obtain ⟨u4, y4, e4, t4⟩ := hf 4 _ rfl
    injection e4 with e4; subst e4
    obtain ⟨v4, g4, _⟩ := DataW.trod_bool Tryz.underlying4 t4
    injection g4 with g4 _; subst g4
    unfold maxLen at s0
    exact ⟨⟨v0, v1, v2, v3, v4⟩, rfl, by simp only [Mil.fits]; omega⟩

set_option maxRecDepth 100000 in
theorem arg_Mill {H : Type} {enc : TypeId × Value → H} {W : World} {r : Reach} {b0 : Nat} {v : Value} {d : DataW H} {p : List MemPlace} (hv : Value.okWide Tryz.prog W r b0 63 v) (h : DataW.Trod enc Tryz.prog W 0 (fun _ => true) true 63 v d p) :
    ∃ x : Mil, v = .agg x.cs.toArray ∧ x.fits := arg_rec Tryz.underlying63 each_Mill hv h

set_option maxRecDepth 100000 in
theorem arg_Mills {H : Type} {enc : TypeId × Value → H} {W : World} {r : Reach} {b0 : Nat} {v : Value} {d : DataW H} {p : List MemPlace} (hv : Value.okWide Tryz.prog W r b0 23 v) (h : DataW.Trod enc Tryz.prog W 0 (fun _ => true) true 23 v d p) :
    ∃ a cap xs, v = .slice a xs.length cap ∧ Recs Mil.cs W a xs ∧ xs.length ≤ 9223372036854775807 ∧ ∀ x ∈ xs, Mil.fits x :=
  arg_recs Tryz.underlying23 (by kernel_rfl) Mil.len (by omega) each_Mill hv h
end Go.Proofs.YtjlilmcilojkbaaGreat
namespace Go.Proofs.YtjlilmcilojkbaaGreat
open Go.ChangeShapes Go.WideShapes Go.ChangeAt Go.RowKit


set_option maxRecDepth 100000 in
theorem each_Part {H : Type} {enc : TypeId × Value → H} {W : World} (fuel : Nat) (cs : List Value) (x : DataW H × List MemPlace) (h : DataW.trod enc Tryz.prog W 0 (fun _ => true) true fuel 66 cs = some x) : ∃ r : Par, cs = r.cs ∧ r.fits := by
  obtain ⟨hl, n, hf⟩ := rec_fields Tryz.underlying66 (by kernel_rfl) (by kernel_rfl) h
  match cs, hl with
  | [c0, c1, c2], _ =>
    obtain ⟨u0, y0, e0, t0⟩ := hf 0 _ rfl
    injection e0 with e0; subst e0
    obtain ⟨v0, g0, _, s0⟩ := DataW.trod_string Tryz.underlying9 t0
    injection g0 with g0 _; subst g0
    obtain ⟨u1, y1, e1, t1⟩ := hf 1 _ rfl
    injection e1 with e1; subst e1
    obtain ⟨v1, g1, _, s1⟩ := DataW.trod_string Tryz.underlying9 t1
    injection g1 with g1 _; subst g1
    obtain ⟨u2, y2, e2, t2⟩ := hf 2 _ rfl
    injection e2 with e2; subst e2
    obtain ⟨v2, g2, _, _⟩ := DataW.trod_int Tryz.underlying2 t2
    injection g2 with g2 _; subst g2
    unfold maxLen at s0 s1
    exact ⟨⟨v0, v1, v2⟩, rfl, by simp only [Par.fits]; omega⟩

set_option maxRecDepth 100000 in
theorem arg_Part {H : Type} {enc : TypeId × Value → H} {W : World} {r : Reach} {b0 : Nat} {v : Value} {d : DataW H} {p : List MemPlace} (hv : Value.okWide Tryz.prog W r b0 66 v) (h : DataW.Trod enc Tryz.prog W 0 (fun _ => true) true 66 v d p) :
    ∃ x : Par, v = .agg x.cs.toArray ∧ x.fits := arg_rec Tryz.underlying66 each_Part hv h

set_option maxRecDepth 100000 in
theorem arg_Parts {H : Type} {enc : TypeId × Value → H} {W : World} {r : Reach} {b0 : Nat} {v : Value} {d : DataW H} {p : List MemPlace} (hv : Value.okWide Tryz.prog W r b0 24 v) (h : DataW.Trod enc Tryz.prog W 0 (fun _ => true) true 24 v d p) :
    ∃ a cap xs, v = .slice a xs.length cap ∧ Recs Par.cs W a xs ∧ xs.length ≤ 9223372036854775807 ∧ ∀ x ∈ xs, Par.fits x :=
  arg_recs Tryz.underlying24 (by kernel_rfl) Par.len (by omega) each_Part hv h
end Go.Proofs.YtjlilmcilojkbaaGreat
namespace Go.Proofs.YtjlilmcilojkbaaGreat
open Go.ChangeShapes Go.WideShapes Go.ChangeAt Go.RowKit


set_option maxRecDepth 100000 in
theorem each_Wait {H : Type} {enc : TypeId × Value → H} {W : World} (fuel : Nat) (cs : List Value) (x : DataW H × List MemPlace) (h : DataW.trod enc Tryz.prog W 0 (fun _ => true) true fuel 69 cs = some x) : ∃ r : Wai, cs = r.cs ∧ r.fits := by
  obtain ⟨hl, n, hf⟩ := rec_fields Tryz.underlying69 (by kernel_rfl) (by kernel_rfl) h
  match cs, hl with
  | [c0, c1, c2, c3], _ =>
    obtain ⟨u0, y0, e0, t0⟩ := hf 0 _ rfl
    injection e0 with e0; subst e0
    obtain ⟨v0, g0, _, s0⟩ := DataW.trod_string Tryz.underlying9 t0
    injection g0 with g0 _; subst g0
    obtain ⟨u1, y1, e1, t1⟩ := hf 1 _ rfl
    injection e1 with e1; subst e1
    obtain ⟨v1, g1, _, s1⟩ := DataW.trod_string Tryz.underlying9 t1
    injection g1 with g1 _; subst g1
    obtain ⟨u2, y2, e2, t2⟩ := hf 2 _ rfl
    injection e2 with e2; subst e2
    obtain ⟨v2, g2, _, _⟩ := DataW.trod_int Tryz.underlying2 t2
    injection g2 with g2 _; subst g2
    obtain ⟨u3, y3, e3, t3⟩ := hf 3 _ rfl
    injection e3 with e3; subst e3
    obtain ⟨v3, g3, _, _⟩ := DataW.trod_int Tryz.underlying2 t3
    injection g3 with g3 _; subst g3
    unfold maxLen at s0 s1
    exact ⟨⟨v0, v1, v2, v3⟩, rfl, by simp only [Wai.fits]; omega⟩

set_option maxRecDepth 100000 in
theorem arg_Wait {H : Type} {enc : TypeId × Value → H} {W : World} {r : Reach} {b0 : Nat} {v : Value} {d : DataW H} {p : List MemPlace} (hv : Value.okWide Tryz.prog W r b0 69 v) (h : DataW.Trod enc Tryz.prog W 0 (fun _ => true) true 69 v d p) :
    ∃ x : Wai, v = .agg x.cs.toArray ∧ x.fits := arg_rec Tryz.underlying69 each_Wait hv h

set_option maxRecDepth 100000 in
theorem arg_Waits {H : Type} {enc : TypeId × Value → H} {W : World} {r : Reach} {b0 : Nat} {v : Value} {d : DataW H} {p : List MemPlace} (hv : Value.okWide Tryz.prog W r b0 25 v) (h : DataW.Trod enc Tryz.prog W 0 (fun _ => true) true 25 v d p) :
    ∃ a cap xs, v = .slice a xs.length cap ∧ Recs Wai.cs W a xs ∧ xs.length ≤ 9223372036854775807 ∧ ∀ x ∈ xs, Wai.fits x :=
  arg_recs Tryz.underlying25 (by kernel_rfl) Wai.len (by omega) each_Wait hv h
end Go.Proofs.YtjlilmcilojkbaaGreat
namespace Go.Proofs.YtjlilmcilojkbaaGreat
open Go.ChangeShapes Go.WideShapes Go.ChangeAt Go.RowKit

section
variable {H : Type} {enc : TypeId × Value → H} {W : World}
set_option maxRecDepth 100000 in
/-- A list of records in one cell. -/
theorem cell_recs {α : Type} {f : α → List Value} {c : Nat} {Z : α → Prop} {P : Program} {t e : TypeId} {v : Value} {fuel : Nat} {x : DataW H × List MemPlace}
    (ht : P.underlying t = some (.slice e)) (hC : P.cellsOf e = c) (hc : ∀ x, (f x).length = c) (h0 : 0 < c)
    (each : ∀ fuel cs x, DataW.trod enc P W 0 (fun _ => true) true fuel e cs = some x → ∃ r : α, cs = f r ∧ Z r)
    (hf : DataW.trod enc P W 0 (fun _ => true) true fuel t [v] = some x) :
    ∃ a cap xs, v = .slice a xs.length cap ∧ Recs f W a xs ∧ xs.length ≤ 9223372036854775807 ∧ ∀ x ∈ xs, Z x := by
  rcases Go.Deep.open_slice ht hf with ⟨hcs, _⟩ | ⟨ad, l, cc, m, n, D, Pl, hcs, _, hl, hm, hmm, _, hi⟩
  · injection hcs with hcs _
    exact ⟨none, 0, [], hcs, Lies.nil _ _, by simp, by simp⟩
  · injection hcs with hcs _
    subst hcs
    simp only [if_true] at hmm
    subst hmm
    have hall : ∀ i, i < l → ∃ x : α, (∀ j v, (f x)[j]? = some v → W.cell? (ad.add (i * c + j)) = some v) ∧ Z x := by
      intro i hlt
      obtain ⟨cs', hcells, htr⟩ := hi i (by omega)
      obtain ⟨x, rfl, hz⟩ := each _ _ _ htr
      obtain ⟨_, hlen, hat⟩ := World.cells?_some hcells
      refine ⟨x, fun j v hj => ?_, hz⟩
      have hjl : j < P.cellsOf e := by rw [← hlen]; exact (List.getElem?_eq_some_iff.1 hj).1
      have := hat j hjl
      rw [hj, hC, Go.Deep.add_add] at this
      exact this
    obtain ⟨xs, hxl, hxs⟩ := list_choose l hall
    refine ⟨some ad, m, xs, by rw [hxl], ?_, ?_, ?_⟩
    · obtain ⟨b, off, spot⟩ := ad
      by_cases hpos : 0 < l
      · have hk0 : 0 < xs.length := by omega
        have hfl : 0 < (f xs[0]).length := by rw [hc]; exact h0
        have hc0 := (hxs 0 hk0).1 0 (f xs[0])[0] (List.getElem?_eq_getElem hfl)
        have hspot : spot = none := by simpa [Addr.add] using World.cell?_spot hc0
        subst hspot
        refine Recs.mk hc fun k hk j v hj => ?_
        have := (hxs k hk).1 j v hj
        rw [Go.WideShapes.add_plain] at this
        exact this
      · have : xs = [] := List.eq_nil_of_length_eq_zero (by omega)
        subst this
        exact Lies.nil _ _
    · rw [hxl]; unfold maxLen at hm; omega
    · intro x hx
      obtain ⟨k, hk, rfl⟩ := List.getElem_of_mem hx
      exact (hxs k hk).2
end

set_option maxRecDepth 100000 in
theorem pcells_flat : ∀ ps : List Pur, pcells ps = ps.flatMap Pur.cells
  | [] => rfl
  | p :: r => by rw [List.flatMap_cons, ← pcells_flat r]; rfl
set_option maxRecDepth 100000 in
theorem each_Purse {H : Type} {enc : TypeId × Value → H} {W : World} (fuel : Nat) (cs : List Value) (x : DataW H × List MemPlace) (h : DataW.trod enc Tryz.prog W 0 (fun _ => true) true fuel 61 cs = some x) : ∃ r : Pur, cs = r.cells ∧ r.name.size ≤ 9223372036854775807 := by
  obtain ⟨hl, n, hf⟩ := rec_fields Tryz.underlying61 (by kernel_rfl) (by kernel_rfl) h
  match cs, hl with
  | [c0, c1], _ =>
    obtain ⟨u0, y0, e0, t0⟩ := hf 0 _ rfl
    injection e0 with e0; subst e0
    obtain ⟨v0, g0, _, s0⟩ := DataW.trod_string Tryz.underlying9 t0
    injection g0 with g0 _; subst g0
    obtain ⟨u1, y1, e1, t1⟩ := hf 1 _ rfl
    injection e1 with e1; subst e1
    obtain ⟨v1, g1, _, _⟩ := DataW.trod_int Tryz.underlying2 t1
    injection g1 with g1 _; subst g1
    unfold maxLen at s0
    exact ⟨⟨v0, v1⟩, rfl, by simp only; omega⟩

set_option maxRecDepth 100000 in
/-- Its cells read as a book's. -/
theorem each_Book {H : Type} {enc : TypeId × Value → H} {W : World} (fuel : Nat) (cs : List Value) (x : DataW H × List MemPlace) (h : DataW.trod enc Tryz.prog W 0 (fun _ => true) true fuel 27 cs = some x) :
    ∃ (b : Bok) (s : Spots), cs = (#[.int .i64 b.season, .int .i64 b.supply, .int .i64 b.burnt, .int .i64 b.pot, .slice s.fa b.folk.length s.fc, .slice s.ma b.mills.length s.mc, .slice s.pa b.parts.length s.pc, .slice s.wa b.waits.length s.wc] : Array Value).toList ∧ BookAt W b s ∧ BFits b := by
  obtain ⟨hl, n, hf⟩ := rec_fields Tryz.underlying27 (by kernel_rfl) (by kernel_rfl) h
  match cs, hl with
  | [c0, c1, c2, c3, c4, c5, c6, c7], _ =>
    obtain ⟨u0, y0, e0, t0⟩ := hf 0 _ rfl
    injection e0 with e0; subst e0
    obtain ⟨v0, g0, _, _⟩ := DataW.trod_int Tryz.underlying2 t0
    injection g0 with g0 _; subst g0
    obtain ⟨u1, y1, e1, t1⟩ := hf 1 _ rfl
    injection e1 with e1; subst e1
    obtain ⟨v1, g1, _, _⟩ := DataW.trod_int Tryz.underlying2 t1
    injection g1 with g1 _; subst g1
    obtain ⟨u2, y2, e2, t2⟩ := hf 2 _ rfl
    injection e2 with e2; subst e2
    obtain ⟨v2, g2, _, _⟩ := DataW.trod_int Tryz.underlying2 t2
    injection g2 with g2 _; subst g2
    obtain ⟨u3, y3, e3, t3⟩ := hf 3 _ rfl
    injection e3 with e3; subst e3
    obtain ⟨v3, g3, _, _⟩ := DataW.trod_int Tryz.underlying2 t3
    injection g3 with g3 _; subst g3
    obtain ⟨u4, y4, e4, t4⟩ := hf 4 _ rfl
    injection e4 with e4; subst e4
    obtain ⟨fa, fc, fs, rfl, r4, l4, z4⟩ := cell_recs Tryz.underlying22 (by kernel_rfl) (f := Pur.cells) (c := 2) (fun _ => rfl) (by omega) each_Purse t4
    obtain ⟨u5, y5, e5, t5⟩ := hf 5 _ rfl
    injection e5 with e5; subst e5
    obtain ⟨ma, mc, ms, rfl, r5, l5, z5⟩ := cell_recs Tryz.underlying23 (by kernel_rfl) Mil.len (by omega) each_Mill t5
    obtain ⟨u6, y6, e6, t6⟩ := hf 6 _ rfl
    injection e6 with e6; subst e6
    obtain ⟨pa, pc, ps, rfl, r6, l6, z6⟩ := cell_recs Tryz.underlying24 (by kernel_rfl) Par.len (by omega) each_Part t6
    obtain ⟨u7, y7, e7, t7⟩ := hf 7 _ rfl
    injection e7 with e7; subst e7
    obtain ⟨wa, wc, ws, rfl, r7, l7, z7⟩ := cell_recs Tryz.underlying25 (by kernel_rfl) Wai.len (by omega) each_Wait t7
    exact ⟨⟨v0, v1, v2, v3, fs, ms, ps, ws⟩, ⟨fa, fc, ma, mc, pa, pc, wa, wc⟩, rfl, ⟨show Lies W fa (pcells fs) by rw [pcells_flat]; exact r4, r5, r6, r7⟩, ⟨l4, l5, l6, l7, z4, z5, z6, z7⟩⟩

set_option maxRecDepth 100000 in
/-- A book among the arguments. -/
theorem arg_Book {H : Type} {enc : TypeId × Value → H} {W : World} {r : Reach} {b0 : Nat} {v : Value} {d : DataW H} {p : List MemPlace} (hv : Value.okWide Tryz.prog W r b0 27 v) (h : DataW.Trod enc Tryz.prog W 0 (fun _ => true) true 27 v d p) :
    ∃ (b : Bok) (s : Spots), v = .agg #[.int .i64 b.season, .int .i64 b.supply, .int .i64 b.burnt, .int .i64 b.pot, .slice s.fa b.folk.length s.fc, .slice s.ma b.mills.length s.mc, .slice s.pa b.parts.length s.pc, .slice s.wa b.waits.length s.wc] ∧ BookAt W b s ∧ BFits b := by
  obtain ⟨cs, rfl, hsz⟩ := okWide_struct Tryz.underlying27 hv
  obtain ⟨fuel, hf⟩ := h
  obtain ⟨b, s, e, hb, hf⟩ := each_Book _ _ _ hf
  refine ⟨b, s, ?_, hb, hf⟩
  have e' : cs.toList = (#[.int .i64 b.season, .int .i64 b.supply, .int .i64 b.burnt, .int .i64 b.pot, .slice s.fa b.folk.length s.fc, .slice s.ma b.mills.length s.mc, .slice s.pa b.parts.length s.pc, .slice s.wa b.waits.length s.wc] : Array Value).toList := by simpa [Value.cells] using e
  rw [Array.toList_inj.1 e']
end Go.Proofs.YtjlilmcilojkbaaGreat
