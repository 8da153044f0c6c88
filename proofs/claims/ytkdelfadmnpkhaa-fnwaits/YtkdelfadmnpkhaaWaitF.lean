/-
  What chapter 6's Fined answers, the model's: a list of the call's own, and how much in all.
-/
import Derived.Test.YtkdelfadmnpkhaaWaitR
import Derived.Test.YtkdelfadmnpkhaaImpl
namespace Go.Proofs.Ytkdelfadmnpkhaa
open Go.ChangeShapes Go.WideShapes Go.ChangeAt Go.RowKit

theorem partV_bd {n p : Int} (h0 : 0 ≤ n) (h1 : n ≤ 1000000) (hp : inB 0 100 p = true) : 0 ≤ partV n p ∧ partV n p ≤ n := by
  have hb := inB_true hp
  rw [partV, if_pos (by rw [hp, inB_of h0 h1]; rfl)]
  have h2 : 0 ≤ n * p := Int.mul_nonneg h0 hb.1
  have h3 : n * p ≤ n * 100 := Int.mul_le_mul_of_nonneg_left hb.2 h0
  omega
/-- What is cut off of one. -/
def cutW (mill : ByteArray) (pc : Int) (p : Wai) : Int := if (p.mill.toList == mill.toList) = true then partV p.amount pc else 0
/-- One that is fined. -/
def fineW (mill : ByteArray) (pc : Int) (p : Wai) : Wai := ⟨p.who, p.mill, p.amount - cutW mill pc p, p.ripe⟩
def finOf (mill : ByteArray) (pc : Int) (ps : List Wai) : List Wai := (ps.map (fineW mill pc)).filter fun p => decide (0 < p.amount)
def finSum (mill : ByteArray) (pc : Int) (ps : List Wai) : Int := (ps.map (cutW mill pc)).sum
noncomputable def finedB (ps : List Wai) (pc : Int) : Bool := waitsB ps && inB 0 100 pc
noncomputable def finedL (ps : List Wai) (mill : ByteArray) (pc : Int) : List Wai := if finedB ps pc = true then finOf mill pc ps else []
noncomputable def finedN (ps : List Wai) (mill : ByteArray) (pc : Int) : Int := if finedB ps pc = true then finSum mill pc ps else -1
theorem finOf_le (mill : ByteArray) (pc : Int) (ps : List Wai) : (finOf mill pc ps).length ≤ ps.length := by
  unfold finOf
  exact Nat.le_trans (List.length_filter_le _ _) (by simp)
section
variable {ps : List Wai} {mill : ByteArray} {pc : Int} {k : Nat}
theorem fin_yes (h : k < ps.length) (hq : 0 < (fineW mill pc ps[k]).amount) : finOf mill pc (ps.take (k + 1)) = finOf mill pc (ps.take k) ++ [fineW mill pc ps[k]] := by
  unfold finOf
  rw [List.take_succ_eq_append_getElem h, List.map_append, List.filter_append]
  simp [hq]
theorem fin_no (h : k < ps.length) (hq : ¬ 0 < (fineW mill pc ps[k]).amount) : finOf mill pc (ps.take (k + 1)) = finOf mill pc (ps.take k) := by
  unfold finOf
  rw [List.take_succ_eq_append_getElem h, List.map_append, List.filter_append]
  simp [hq]
theorem sum_next (h : k < ps.length) : finSum mill pc (ps.take (k + 1)) = finSum mill pc (ps.take k) + cutW mill pc ps[k] := by
  unfold finSum
  rw [List.take_succ_eq_append_getElem h, List.map_append, List.sum_append]
  simp
theorem cut_bd {p : Wai} (h : waitB p = true) (hp : inB 0 100 pc = true) : 0 ≤ cutW mill pc p ∧ cutW mill pc p ≤ p.amount := by
  have h1 := wait_bd h
  unfold cutW
  split
  · exact partV_bd (by omega) (by omega) hp
  · omega
theorem fin_bd (h : WUp ps ps.length) (hp : inB 0 100 pc = true) : ∀ k, k ≤ ps.length → 0 ≤ finSum mill pc (ps.take k) ∧ finSum mill pc (ps.take k) ≤ 1000000 * k
  | 0, _ => by simp [finSum]
  | k + 1, hk => by
    have h1 := fin_bd h hp k (by omega)
    have h2 := wait_bd (h.1 k (by omega) (by omega))
    have h3 := cut_bd (mill := mill) (h.1 k (by omega) (by omega)) hp
    rw [sum_next (by omega)]
    omega
end

/-- The loop's word. -/
def FinRel (w : World) (ps : List Wai) (mill : ByteArray) (pc : Int) (v t i : Value) (wr : World) : Prop :=
  ∃ k g c : Nat, k ≤ ps.length ∧ i = .int .i64 k ∧ t = .int .i64 (finSum mill pc (ps.take k)) ∧ v = .slice (some ⟨g, 0, none⟩) (finOf mill pc (ps.take k)).length c ∧
    wr.ownsRow w.heap.size 26 4 (.slice (some ⟨g, 0, none⟩) (finOf mill pc (ps.take k)).length c) (finOf mill pc (ps.take k)).length ((finOf mill pc (ps.take k)).flatMap Wai.cs) ∧ Below w.heap.size w wr
theorem resOI_of {w w' : World} {g c : Nat} {o : List Wai} {n : Int} (h : w'.ownsRow w.heap.size 26 4 (.slice (some ⟨g, 0, none⟩) o.length c) o.length (o.flatMap Wai.cs)) (hb : Below w.heap.size w w') :
    ResOI Wai.cs 4 o n w (.returned (.tuple #[.slice (some ⟨g, 0, none⟩) o.length c, .int .i64 n])) w' := by
  obtain ⟨a, k, e, r, -⟩ := ownR_of Wai.len h
  injection e with e1 _ e3
  subst e1; subst e3
  exact ⟨_, _, rfl, r, hb, (own_some h).2.1⟩

set_option maxHeartbeats 8000000 in
set_option maxRecDepth 100000 in
theorem sFined_own {w : World} {b off : Nat} {ps : List Wai} (cap : Nat) (mill : ByteArray) (pc : Int) (h : Recs Wai.cs w (some ⟨b, off, none⟩) ps) (_ : ps.length ≤ cap) (hl : ps.length ≤ 1048576) (hs : WSized ps) (_ : mill.size ≤ maxLen) :
    Calls Try.prog 28 #[.slice (some ⟨b, off, none⟩) ps.length cap, .string mill, .int .i64 pc] w (ResOI Wai.cs 4 (finedL ps mill pc) (finedN ps mill pc) w) := by
  have H := Lib.hid h
  have HS := Lib.hid hs
  clear h hs
  obtain ⟨i0, hi, hz0, hz1, hz2⟩ := info_parts info_Wait
  have HI := Lib.hid hi
  have HZ0 := Lib.hid hz0
  have HZ1 := Lib.hid hz1
  have HZ2 := Lib.hid hz2
  clear hi hz0 hz1 hz2
  have HB0 := Lib.hid (below_new w (.cells #[] 26))
  have HO0 : Hid ((w.alloc (.cells #[] 26)).ownsRow w.heap.size 26 4 (.slice (some ⟨w.heap.size, 0, none⟩) 0 0) 0 []) := ⟨rfl, .inr ⟨w.heap.size, 0, #[], rfl, Nat.le_refl _, heap_alloc_new _ _, Nat.le_refl _, Nat.zero_le _, rfl, rfl⟩⟩
  have HNO : Hid (finedB ps pc = false → ∀ W, W.ownsRow w.heap.size 26 4 (.slice (some ⟨w.heap.size, 0, none⟩) 0 0) 0 [] → Below w.heap.size w W → ResOI Wai.cs 4 (finedL ps mill pc) (finedN ps mill pc) w (.returned (.tuple #[.slice (some ⟨w.heap.size, 0, none⟩) 0 0, .int .i64 (-1)])) W) := by
    intro hf W ho hb
    rw [finedL, finedN, if_neg (by rw [hf]; decide), if_neg (by rw [hf]; decide)]
    exact resOI_of (o := []) ho hb
  go_enter Try.func28, Try.ntmps28
  go_wp2_with fail
  refine (sWaitsOk_any _ (H.out.below HB0.out) (by omega) HS.out).mono ?_
  rintro e w1 ⟨rfl, hb1⟩
  have HB1 := Lib.hid (below_trans HB0.out hb1)
  have HO1 := Lib.hid (own_below HO0.out hb1)
  clear hb1 HB0 HO0
  cases hf : waitsB ps
  · have HN := Lib.hid (HNO.out (by simp [finedB, hf]) w1 HO1.out HB1.out)
    go_wp2
    go_ret2
    exact HN.out
  cases hp : inB 0 100 pc
  · have HN := Lib.hid (HNO.out (by simp [finedB, hp]) w1 HO1.out HB1.out)
    go_wp2_with (go_at_call 55; refine (l1In_any _ _ _ _).mono ?_; rintro e w' ⟨rfl, rfl⟩; rw [hp])
    go_ret2
    exact HN.out
  obtain ⟨h20, hu⟩ := waits_true hf
  have HU := Lib.hid hu
  have HFB := Lib.hid (show finedB ps pc = true by simp [finedB, hf, hp])
  have HR0 : Hid (FinRel w ps mill pc (.slice (some ⟨w.heap.size, 0, none⟩) 0 0) (.int .i64 0) (.int .i64 0) w1) :=
    ⟨0, w.heap.size, 0, Nat.zero_le _, rfl, by simp [finSum], by simp [finOf], by simpa [finOf] using HO1.out, HB1.out⟩
  clear hu HO1 HB1 HNO
  go_wp2_with (go_at_call 55; refine (l1In_any _ _ _ _).mono ?_; rintro e w' ⟨rfl, rfl⟩; rw [hp])
  go_loopw [8, 9, 10] (fun v t i wr => FinRel w ps mill pc v t i wr) (fun _ _ i _ => ps.length - (intOf i).toNat)
  case atStart => exact HR0.out
  case round =>
    clear HR0
    obtain ⟨k, g, c, hk, rfl, rfl, rfl, ho, hb⟩ := hrel
    have HO := Lib.hid ho
    have HB := Lib.hid hb
    clear ho hb
    obtain ⟨t1, t2⟩ := fin_bd (mill := mill) HU.out hp k hk
    by_cases hlt : k < ps.length
    · obtain ⟨b', off', e', hlb, d0, d1, d2, d3⟩ := Wai.at (H.out.below HB.out) k hlt
      injection e' with e'; injection e' with e1 e2; subst e1; subst e2
      have hlw : w.heap.size ≤ wr.heap.size := HB.out.size
      obtain ⟨-, -, -, hg1, hx1⟩ := own_some HO.out
      obtain ⟨⟨a1, a2⟩, -⟩ := wait_bd (HU.out.1 k hlt hlt)
      have hll := finOf_le mill pc (ps.take k)
      have hlk : (ps.take k).length = k := by simp; omega
      rw [hlk] at hll
      clear hlk
      have HSN := Lib.hid (sum_next (mill := mill) (pc := pc) hlt)
      cases hq : (ps[k].mill.toList == mill.toList)
      · have HCU := Lib.hid (show cutW mill pc ps[k] = 0 by unfold cutW; rw [hq]; rfl)
        have HFW := Lib.hid (show fineW mill pc ps[k] = ps[k] by unfold fineW; rw [HCU.out, Int.sub_zero])
        have HY := Lib.hid (fin_yes (mill := mill) (pc := pc) hlt (by rw [HFW.out]; omega))
        have HA := Lib.hid ((HO.out.alloc (.cells #[.string ps[k].who, .string ps[k].mill, .int .i64 ps[k].amount, .int .i64 ps[k].ripe] 26)).alloc (.cells #[.string ps[k].who, .string ps[k].mill, .int .i64 ps[k].amount, .int .i64 ps[k].ripe] 26))
        have HBN := Lib.hid (below_trans (below_trans HB.out (below_new wr (.cells #[.string ps[k].who, .string ps[k].mill, .int .i64 ps[k].amount, .int .i64 ps[k].ripe] 26))) (below_new _ (.cells #[.string ps[k].who, .string ps[k].mill, .int .i64 ps[k].amount, .int .i64 ps[k].ripe] 26)))
        have HN1 := Lib.hid (rec_new ps[k] (wr.alloc (.cells #[.string ps[k].who, .string ps[k].mill, .int .i64 ps[k].amount, .int .i64 ps[k].ripe] 26)))
        have hpos : (0 : Int) < ps[k].amount := by omega
        have HN2 := Lib.hid (show ∀ j u, ps[k].cs[j]? = some u → ((wr.alloc (.cells #[.string ps[k].who, .string ps[k].mill, .int .i64 ps[k].amount, .int .i64 ps[k].ripe] 26)).alloc (.cells #[.string ps[k].who, .string ps[k].mill, .int .i64 ps[k].amount, .int .i64 ps[k].ripe] 26)).cell? ((⟨wr.heap.size + 1, 0, none⟩ : Addr).add j) = some u by simpa using HN1.out)
        go_wp2_with (at_builtin; refine wpList_append_some rfl _ _ 24 rfl w.heap.size 26 i0 (.agg #[.string ByteArray.empty, .string ByteArray.empty, .int .i64 0, .int .i64 0]) 4 48 Try.underlying24 HI.out HZ0.out HZ1.out HZ2.out rfl (by decide) g c _ _ rfl HA.out ⟨wr.heap.size + 1, 0, none⟩ 1 1 ps[k].cs rfl rfl HN2.out (Wai.one _) ?c2 ?c3 ?_)
        case c2 => unfold maxLen; omega
        case c3 => omega
        rintro g6 c6 w6 ⟨h6, h6g, h6b, h6l, h6x⟩
        have HR : Hid (FinRel w ps mill pc (.slice (some ⟨g6, 0, none⟩) ((finOf mill pc (ps.take k)).length + 1) c6) (.int .i64 (finSum mill pc (ps.take k))) (.int .i64 ((k : Int) + 1)) w6) := by
          refine ⟨k + 1, g6, c6, by omega, by go_num, ?_, ?_, ?_, bgrown HBN.out (by simp; omega) h6g (by intro z hz; injection hz with hz; omega)⟩
          · rw [HSN.out, HCU.out, Int.add_zero]
          · rw [HY.out, List.length_append]; rfl
          · rw [HY.out, List.length_append, List.flatMap_append, List.flatMap_singleton, HFW.out]; exact h6
        clear h6 h6g h6b h6l h6x
        go_wp2
        go_roundw
        case rel => first | exact HR.out | (have := HR.out; simpa using this)
        case measure => simp [intOf]; omega
      · have HCU := Lib.hid (show cutW mill pc ps[k] = partV ps[k].amount pc by unfold cutW; rw [hq]; rfl)
        obtain ⟨p1, p2⟩ := partV_bd (n := ps[k].amount) (by omega) (by omega) hp
        obtain ⟨pv, HPV⟩ : ∃ pv, Hid (partV ps[k].amount pc = pv) := ⟨_, Lib.hid rfl⟩
        rw [HPV.out] at p1 p2
        by_cases hpos : 0 < ps[k].amount - pv
        · have HFW := Lib.hid (show fineW mill pc ps[k] = ⟨ps[k].who, ps[k].mill, ps[k].amount - pv, ps[k].ripe⟩ by unfold fineW; rw [HCU.out, HPV.out])
          have HY := Lib.hid (fin_yes (mill := mill) (pc := pc) hlt (by rw [HFW.out]; exact hpos))
          have HA := Lib.hid ((HO.out.alloc (.cells #[.string ps[k].who, .string ps[k].mill, .int .i64 (ps[k].amount - pv), .int .i64 ps[k].ripe] 26)).alloc (.cells #[.string ps[k].who, .string ps[k].mill, .int .i64 (ps[k].amount - pv), .int .i64 ps[k].ripe] 26))
          have HBN := Lib.hid (below_trans (below_trans HB.out (below_new wr (.cells #[.string ps[k].who, .string ps[k].mill, .int .i64 (ps[k].amount - pv), .int .i64 ps[k].ripe] 26))) (below_new _ (.cells #[.string ps[k].who, .string ps[k].mill, .int .i64 (ps[k].amount - pv), .int .i64 ps[k].ripe] 26)))
          have HN1 := Lib.hid (rec_new ⟨ps[k].who, ps[k].mill, ps[k].amount - pv, ps[k].ripe⟩ (wr.alloc (.cells #[.string ps[k].who, .string ps[k].mill, .int .i64 (ps[k].amount - pv), .int .i64 ps[k].ripe] 26)))
          have HN2 := Lib.hid (show ∀ j u, (Wai.cs ⟨ps[k].who, ps[k].mill, ps[k].amount - pv, ps[k].ripe⟩)[j]? = some u → ((wr.alloc (.cells #[.string ps[k].who, .string ps[k].mill, .int .i64 (ps[k].amount - pv), .int .i64 ps[k].ripe] 26)).alloc (.cells #[.string ps[k].who, .string ps[k].mill, .int .i64 (ps[k].amount - pv), .int .i64 ps[k].ripe] 26)).cell? ((⟨wr.heap.size + 1, 0, none⟩ : Addr).add j) = some u by simpa using HN1.out)
          go_wp2_with fail
          refine (sPartOf_any _ _ _).mono ?_
          rw [HPV.out]
          rintro e w' ⟨rfl, rfl⟩
          go_wp2_with (at_builtin; refine wpList_append_some rfl _ _ 24 rfl w.heap.size 26 i0 (.agg #[.string ByteArray.empty, .string ByteArray.empty, .int .i64 0, .int .i64 0]) 4 48 Try.underlying24 HI.out HZ0.out HZ1.out HZ2.out rfl (by decide) g c _ _ rfl HA.out ⟨wr.heap.size + 1, 0, none⟩ 1 1 (Wai.cs ⟨ps[k].who, ps[k].mill, ps[k].amount - pv, ps[k].ripe⟩) rfl rfl HN2.out (Wai.one _) ?c2 ?c3 ?_)
          case c2 => unfold maxLen; omega
          case c3 => omega
          rintro g6 c6 w6 ⟨h6, h6g, h6b, h6l, h6x⟩
          have HR : Hid (FinRel w ps mill pc (.slice (some ⟨g6, 0, none⟩) ((finOf mill pc (ps.take k)).length + 1) c6) (.int .i64 (finSum mill pc (ps.take k) + pv)) (.int .i64 ((k : Int) + 1)) w6) := by
            refine ⟨k + 1, g6, c6, by omega, by go_num, ?_, ?_, ?_, bgrown HBN.out (by simp; omega) h6g (by intro z hz; injection hz with hz; omega)⟩
            · rw [HSN.out, HCU.out, HPV.out]
            · rw [HY.out, List.length_append]; rfl
            · rw [HY.out, List.length_append, List.flatMap_append, List.flatMap_singleton, HFW.out]; exact h6
          clear h6 h6g h6b h6l h6x
          go_wp2
          go_roundw
          case rel => first | exact HR.out | (have := HR.out; simpa using this)
          case measure => simp [intOf]; omega
        · have HFW := Lib.hid (show fineW mill pc ps[k] = ⟨ps[k].who, ps[k].mill, ps[k].amount - pv, ps[k].ripe⟩ by unfold fineW; rw [HCU.out, HPV.out])
          have HY := Lib.hid (fin_no (mill := mill) (pc := pc) hlt (by rw [HFW.out]; exact hpos))
          have hpv : pv = ps[k].amount := by omega
          have hpos' : ¬ (0 : Int) < ps[k].amount - pv := hpos
          have HR : Hid (∀ x : Int, FinRel w ps mill pc (.slice (some ⟨g, 0, none⟩) (finOf mill pc (ps.take k)).length c) (.int .i64 (finSum mill pc (ps.take k) + ps[k].amount)) (.int .i64 ((k : Int) + 1)) (wr.alloc (.cells #[.string ps[k].who, .string ps[k].mill, .int .i64 x, .int .i64 ps[k].ripe] 26))) := by
            intro x
            refine ⟨k + 1, g, c, by omega, by go_num, ?_, ?_, ?_, below_trans HB.out (below_new _ _)⟩
            · rw [HSN.out, HCU.out, HPV.out, hpv]
            · rw [HY.out]
            · rw [HY.out]; exact HO.out.alloc _
          go_wp2_with fail
          refine (sPartOf_any _ _ _).mono ?_
          rw [HPV.out]
          rintro e w' ⟨rfl, rfl⟩
          go_wp2
          go_roundw
          case rel => first | exact HR.out _ | (have := HR.out (ps[k].amount - pv); simpa using this)
          case measure => simp [intOf]; omega
    · obtain rfl : k = ps.length := by omega
      have HN := Lib.hid (show ResOI Wai.cs 4 (finedL ps mill pc) (finedN ps mill pc) w (.returned (.tuple #[.slice (some ⟨g, 0, none⟩) (finOf mill pc (ps.take ps.length)).length c, .int .i64 (finSum mill pc (ps.take ps.length))])) wr from by
        rw [finedL, finedN, if_pos HFB.out, if_pos HFB.out]
        have e : ps.take ps.length = ps := List.take_length
        have ho := HO.out
        rw [e] at ho ⊢
        exact resOI_of ho HB.out)
      go_wp2
      go_ret2
      exact HN.out

theorem sWaiting_own {w : World} {b off : Nat} {ps : List Wai} (cap : Nat) (q : Wai) (h : Recs Wai.cs w (some ⟨b, off, none⟩) ps) (hc : ps.length ≤ cap) (hl : ps.length ≤ 1048576) (hs : WSized ps) (hq : q.who.size ≤ maxLen ∧ q.mill.size ≤ maxLen) :
    Calls Try.prog 18 #[.slice (some ⟨b, off, none⟩) ps.length cap, .agg #[.string q.who, .string q.mill, .int .i64 q.amount, .int .i64 q.ripe]] w (ResOB Wai.cs 4 (waitingL ps q) (waitingB ps q) w) :=
  (sWaiting_any cap q h hc hl hs hq).mono fun _ _ => resRB_own Wai.len
theorem putW_le (ps : List Wai) (q : Wai) : (putW ps q).length ≤ ps.length + 1 := by
  have := lowW_le ps q.ripe
  unfold putW; simp; omega
theorem waitingL_le (ps : List Wai) (q : Wai) : (waitingL ps q).length ≤ 20 := by
  unfold waitingL
  split
  · rename_i hf
    split
    · rename_i hb
      simp only [waitingB, Bool.and_eq_true] at hb
      exact (waits_true hb.2).1
    · exact (waits_true hf).1
  · exact Nat.zero_le _
theorem waitsFor_le (ps : List Wai) (who : ByteArray) : (waitsForV ps who).length ≤ 20 := by
  unfold waitsForV
  split
  · rename_i hf
    exact Nat.le_trans (ofWhoW_le who ps) (waits_true hf).1
  · exact Nat.zero_le _
theorem finedL_le (ps : List Wai) (mill : ByteArray) (pc : Int) : (finedL ps mill pc).length ≤ 20 := by
  unfold finedL
  split
  · rename_i hf
    simp only [finedB, Bool.and_eq_true] at hf
    exact Nat.le_trans (finOf_le mill pc ps) (waits_true hf.1).1
  · exact Nat.zero_le _
theorem laterV_le (ps : List Wai) (season : Int) : (laterV ps season).length ≤ 20 := by
  unfold laterV
  split
  · rename_i hf
    exact Nat.le_trans (later_le season ps) (waits_true hf).1
  · exact Nat.zero_le _
theorem ripeV_le (ps : List Wai) (season : Int) : (ripeV ps season).length ≤ 20 := by
  unfold ripeV
  split
  · rename_i hf
    exact Nat.le_trans (ripe_le season ps) (waits_true hf).1
  · exact Nat.zero_le _
theorem sized_Wait {ps : List Wai} (hs : ∀ p ∈ ps, p.fits) : WSized ps :=
  wsized_mem.2 fun p hp => ⟨Nat.le_trans (hs p hp).1 (by unfold maxLen; omega), Nat.le_trans (hs p hp).2 (by unfold maxLen; omega)⟩
end Go.Proofs.Ytkdelfadmnpkhaa
