/-
  Texts joined: Impl, WaitF, DrawR.
-/
import Derived.Test.YtlnnchgaloejlaaGreatP4
import Derived.Test.YtlnnchgaloejlaaGreatP6
import Derived.Test.YtlnnchgaloejlaaGreatP12
import Derived.Test.YtlnnchgaloejlaaGreatP16
import Derived.Lib.Hide
namespace Go.Proofs.YtlnnchgaloejlaaGreat
open Go.ChangeShapes Go.WideShapes Go.ChangeAt Go.RowKit

/-- Nothing that was there has changed; there may be new blocks. -/
def Fresh (w w' : World) : Prop := Below w.heap.size w w' ∧ Grown w w'
theorem Fresh.refl (w : World) : Fresh w w := ⟨Below.refl _ _, Grown.refl _⟩
theorem Fresh.alloc {w w' : World} (h : Fresh w w') (c : Array Value) (t : TypeId) : Fresh w (w'.alloc (.cells c t)) :=
  ⟨h.1.alloc h.1.size _, h.2.alloc c t⟩
theorem Fresh.trans {a b c : World} (h : Fresh a b) (k : Fresh b c) : Fresh a c :=
  ⟨h.1.trans (k.1.mono h.1.size), World.keptBut_trans h.2.1 (World.keptBut_mono (fun _ f => f.elim) k.2.1), fun p => (k.2.2.1 p).trans (h.2.2.1 p), Nat.le_trans h.2.2.2 k.2.2.2⟩

theorem allow_all {a b c : Int} (h : okD a b c = true) : (inB 0 1000000000 a && (inB 0 1000000000 b && inB 0 1000000000 c)) = true := by
  obtain ⟨h1, h2, h3, h4, h5, h6⟩ := okD_true h
  rw [inB_of h1 h2, inB_of h3 h4, inB_of (by omega) h6]; rfl

theorem okD_of {a b c : Int} (h : (inB 0 1000000000 a && (inB 0 1000000000 b && inB 0 1000000000 c)) = true) (hc : (c == 0) = false) : okD a b c = true := by
  simp only [Bool.and_eq_true] at h
  obtain ⟨h1, h2, h3⟩ := h
  have h4 := inB_true h3
  have : c ≠ 0 := by simpa using hc
  simp only [okD, Bool.and_eq_true]
  exact ⟨h1, h2, inB_of (by omega) h4.2⟩

theorem okD_no {a b c : Int} (h : (inB 0 1000000000 a && (inB 0 1000000000 b && inB 0 1000000000 c)) = false) : okD a b c = false := by
  cases k : okD a b c
  · rfl
  · rw [allow_all k] at h; exact absurd h (by decide)

theorem okD_zero {a b c : Int} (h : (c == 0) = true) : okD a b c = false := by
  have : c = 0 := by simpa using h
  subst this
  simp [okD, inB]

theorem allOf_new (lim a b c : Int) (w : World) :
    Calls Tryz.prog 60 #[.func (Fn.func 59) #[.int .i64 lim] #[], .slice (some ⟨w.heap.size, 0, none⟩) 3 3] (w.alloc (.cells #[.int .i64 a, .int .i64 b, .int .i64 c] 2)) fun e w' => e = .returned (.bool (inB 0 lim a && (inB 0 lim b && inB 0 lim c))) ∧ w.alloc (.cells #[.int .i64 a, .int .i64 b, .int .i64 c] 2) = w' :=
  allOf_any lim a b c w.heap.size _ (by go_simp) (by go_simp) (by go_simp)

set_option maxHeartbeats 1000000 in
set_option maxRecDepth 100000 in
theorem scaledDown_any (a b c : Int) (w : World) :
    Calls Tryz.prog 146 #[.int .i64 a, .int .i64 b, .int .i64 c, .func (Fn.func 147) #[] #[]] w fun e w' => e = .returned (.int .i64 (downV a b c)) ∧ Fresh w w' := by
  cases ok : (inB 0 1000000000 a && (inB 0 1000000000 b && inB 0 1000000000 c))
  · have hd : downV a b c = -1 := by simp [downV, okD_no ok]
    rw [hd]; clear hd
    go_enter Tryz.func146, Tryz.ntmps146
    go_wp2_with (go_at_call 60; refine (allOf_new _ _ _ _ _).mono ?_; rintro e w' ⟨rfl, rfl⟩; rw [ok])
    go_ret
    exact ⟨rfl, (Fresh.refl _).alloc _ _⟩
  · cases hc : (c == 0)
    · have hk := okD_of ok hc
      have hd : downV a b c = a * b / c := by simp [downV, hk]
      rw [hd]; clear hd
      obtain ⟨h1, h2, h3, h4, h5, h6⟩ := okD_true hk
      obtain ⟨hp, hp2⟩ := prod_bd a b h1 h2 h3 h4
      go_enter Tryz.func146, Tryz.ntmps146
      go_wp2_with (first | (go_at_call 60; refine (allOf_new _ _ _ _ _).mono ?_; rintro e w' ⟨rfl, rfl⟩; rw [ok]) | (go_at_call 147; refine (overDown_any _ _ _ hp hp2 h5 h6).mono ?_; rintro e w' ⟨rfl, rfl⟩))
      go_ret
      exact ⟨rfl, (Fresh.refl _).alloc _ _⟩
    · have hd : downV a b c = -1 := by simp [downV, okD_zero hc]
      rw [hd]; clear hd
      go_enter Tryz.func146, Tryz.ntmps146
      go_wp2_with (go_at_call 60; refine (allOf_new _ _ _ _ _).mono ?_; rintro e w' ⟨rfl, rfl⟩; rw [ok])
      go_ret
      exact ⟨rfl, (Fresh.refl _).alloc _ _⟩

theorem iDown_any (a b c : Int) (w : World) :
    Calls Tryz.prog 114 #[.int .i64 a, .int .i64 b, .int .i64 c] w fun e w' => e = .returned (.int .i64 (downV a b c)) ∧ Fresh w w' := by
  go_enter Tryz.func114, Tryz.ntmps114
  go_wp2_with (go_at_call 146; refine (scaledDown_any _ _ _ _).mono ?_; rintro e w' ⟨rfl, hf⟩)
  go_ret
  exact ⟨rfl, hf⟩

theorem part_bd {n p : Int} (h1 : inB 0 1000000 n = true) (h2 : inB 0 100 p = true) : okD n p 100 = true ∧ 0 ≤ n * p ∧ n * p ≤ 1000000000000000000 := by
  have a := inB_true h1
  have b := inB_true h2
  have k := prod_bd n p (by omega) (by omega) (by omega) (by omega)
  refine ⟨?_, k.1, k.2⟩
  simp only [okD, Bool.and_eq_true]
  exact ⟨inB_of (by omega) (by omega), inB_of (by omega) (by omega), by decide⟩

theorem sPartOf_any (n p : Int) (w : World) :
    Calls Tryz.prog 154 #[.int .i64 n, .int .i64 p] w fun e w' => e = .returned (.int .i64 (partV n p)) ∧ w = w' := by
  cases h1 : inB 0 1000000 n
  · have hd : partV n p = -1 := by simp [partV, h1]
    rw [hd]; clear hd
    go_enter Tryz.func154, Tryz.ntmps154
    go_wp2_with (go_at_call 67; refine (sAmountOk_any _ _).mono ?_; rintro e w' ⟨rfl, rfl⟩; rw [h1])
    go_ret
    exact ⟨rfl, rfl⟩
  · cases h2 : inB 0 100 p
    · have hd : partV n p = -1 := by simp [partV, h2]
      rw [hd]; clear hd
      go_enter Tryz.func154, Tryz.ntmps154
      go_wp2_with (first | (go_at_call 67; refine (sAmountOk_any _ _).mono ?_; rintro e w' ⟨rfl, rfl⟩; rw [h1]) | (go_at_call 66; refine (l1In_any _ _ _ _).mono ?_; rintro e w' ⟨rfl, rfl⟩; rw [h2]))
      go_ret
      exact ⟨rfl, rfl⟩
    · have hd : partV n p = n * p / 100 := by simp [partV, h1, h2]
      rw [hd]; clear hd
      obtain ⟨_, hp, hp2⟩ := part_bd h1 h2
      go_enter Tryz.func154, Tryz.ntmps154
      go_wp2_with (first | (go_at_call 67; refine (sAmountOk_any _ _).mono ?_; rintro e w' ⟨rfl, rfl⟩; rw [h1]) | (go_at_call 66; refine (l1In_any _ _ _ _).mono ?_; rintro e w' ⟨rfl, rfl⟩; rw [h2]))
      go_ret
      exact ⟨rfl, rfl⟩

end Go.Proofs.YtlnnchgaloejlaaGreat
namespace Go.Proofs.YtlnnchgaloejlaaGreat
open Go.ChangeShapes Go.WideShapes Go.ChangeAt Go.RowKit

theorem partV_bd {n p : Int} (h0 : 0 ≤ n) (h1 : n ≤ 1000000) (hp : inB 0 100 p = true) : 0 ≤ partV n p ∧ partV n p ≤ n := by
  have hb := inB_true hp
  rw [partV, if_pos (by rw [hp, inB_of h0 h1]; rfl)]
  have h2 : 0 ≤ n * p := Int.mul_nonneg h0 hb.1
  have h3 : n * p ≤ n * 100 := Int.mul_le_mul_of_nonneg_left hb.2 h0
  omega
/-- What is cut off of one. -/
def cutW (mill : ByteArray) (pc : Int) (p : Wai) : Int := if (p.mill.toList == mill.toList) = true then partV p.amount pc else 0
/-- One that is fined. -/
def fineW (mill : ByteArray) (pc : Int) (p : Wai) : Wai := ⟨p.who, p.mill, p.amount - cutW mill pc p, p.ripe⟩
def finOf (mill : ByteArray) (pc : Int) (ps : List Wai) : List Wai := (ps.map (fineW mill pc)).filter fun p => decide (0 < p.amount)
def finSum (mill : ByteArray) (pc : Int) (ps : List Wai) : Int := (ps.map (cutW mill pc)).sum
noncomputable def finedB (ps : List Wai) (pc : Int) : Bool := waitsB ps && inB 0 100 pc
noncomputable def finedL (ps : List Wai) (mill : ByteArray) (pc : Int) : List Wai := if finedB ps pc = true then finOf mill pc ps else []
noncomputable def finedN (ps : List Wai) (mill : ByteArray) (pc : Int) : Int := if finedB ps pc = true then finSum mill pc ps else -1
theorem finOf_le (mill : ByteArray) (pc : Int) (ps : List Wai) : (finOf mill pc ps).length ≤ ps.length := by
  unfold finOf
  exact Nat.le_trans (List.length_filter_le _ _) (by simp)
section
variable {ps : List Wai} {mill : ByteArray} {pc : Int} {k : Nat}
theorem fin_yes (h : k < ps.length) (hq : 0 < (fineW mill pc ps[k]).amount) : finOf mill pc (ps.take (k + 1)) = finOf mill pc (ps.take k) ++ [fineW mill pc ps[k]] := by
  unfold finOf
  rw [List.take_succ_eq_append_getElem h, List.map_append, List.filter_append]
  simp [hq]
theorem fin_no (h : k < ps.length) (hq : ¬ 0 < (fineW mill pc ps[k]).amount) : finOf mill pc (ps.take (k + 1)) = finOf mill pc (ps.take k) := by
  unfold finOf
  rw [List.take_succ_eq_append_getElem h, List.map_append, List.filter_append]
  simp [hq]
theorem sum_next (h : k < ps.length) : finSum mill pc (ps.take (k + 1)) = finSum mill pc (ps.take k) + cutW mill pc ps[k] := by
  unfold finSum
  rw [List.take_succ_eq_append_getElem h, List.map_append, List.sum_append]
  simp
theorem cut_bd {p : Wai} (h : waitB p = true) (hp : inB 0 100 pc = true) : 0 ≤ cutW mill pc p ∧ cutW mill pc p ≤ p.amount := by
  have h1 := wait_bd h
  unfold cutW
  split
  · exact partV_bd (by omega) (by omega) hp
  · omega
theorem fin_bd (h : WUp ps ps.length) (hp : inB 0 100 pc = true) : ∀ k, k ≤ ps.length → 0 ≤ finSum mill pc (ps.take k) ∧ finSum mill pc (ps.take k) ≤ 1000000 * k
  | 0, _ => by simp [finSum]
  | k + 1, hk => by
    have h1 := fin_bd h hp k (by omega)
    have h2 := wait_bd (h.1 k (by omega) (by omega))
    have h3 := cut_bd (mill := mill) (h.1 k (by omega) (by omega)) hp
    rw [sum_next (by omega)]
    omega
end

/-- The loop's word. -/
def FinRel (w : World) (ps : List Wai) (mill : ByteArray) (pc : Int) (v t i : Value) (wr : World) : Prop :=
  ∃ k g c : Nat, k ≤ ps.length ∧ i = .int .i64 k ∧ t = .int .i64 (finSum mill pc (ps.take k)) ∧ v = .slice (some ⟨g, 0, none⟩) (finOf mill pc (ps.take k)).length c ∧
    wr.ownsRow w.heap.size 74 4 (.slice (some ⟨g, 0, none⟩) (finOf mill pc (ps.take k)).length c) (finOf mill pc (ps.take k)).length ((finOf mill pc (ps.take k)).flatMap Wai.cs) ∧ Below w.heap.size w wr
/-- The same, in a block that is known. -/
def ResSI (out : List Wai) (n : Int) (w : World) (e : Ending) (w' : World) : Prop :=
  ∃ g cap, e = .returned (.tuple #[.slice (some ⟨g, 0, none⟩) out.length cap, .int .i64 n]) ∧ OwnR Wai.cs 4 w' w.heap.size (some ⟨g, 0, none⟩) out ∧ Below w.heap.size w w' ∧ out.length ≤ cap ∧ w.heap.size ≤ g
theorem resOI_of {w w' : World} {g c : Nat} {o : List Wai} {n : Int} (h : w'.ownsRow w.heap.size 74 4 (.slice (some ⟨g, 0, none⟩) o.length c) o.length (o.flatMap Wai.cs)) (hb : Below w.heap.size w w') :
    ResSI o n w (.returned (.tuple #[.slice (some ⟨g, 0, none⟩) o.length c, .int .i64 n])) w' := by
  have hg := (own_some h).2.2.2.1
  obtain ⟨a, k, e, r, -⟩ := ownR_of Wai.len h
  injection e with e1 _ e3
  subst e1; subst e3
  exact ⟨_, _, rfl, r, hb, (own_some h).2.1, hg⟩

set_option maxHeartbeats 8000000 in
set_option maxRecDepth 100000 in
theorem sFined_any {w : World} {a : Option Addr} {ps : List Wai} (cap : Nat) (mill : ByteArray) (pc : Int) (h : Recs Wai.cs w a ps) (hl : ps.length ≤ 1048576) (hs : WSized ps) :
    Calls Tryz.prog 155 #[.slice a ps.length cap, .string mill, .int .i64 pc] w (ResSI (finedL ps mill pc) (finedN ps mill pc) w) := by
  have H := Lib.hid h
  have HS := Lib.hid hs
  clear h hs
  obtain ⟨i0, hi, hz0, hz1, hz2⟩ := info_parts info_Wait
  have HI := Lib.hid hi
  have HZ0 := Lib.hid hz0
  have HZ1 := Lib.hid hz1
  have HZ2 := Lib.hid hz2
  clear hi hz0 hz1 hz2
  have HB0 := Lib.hid (below_new w (.cells #[] 74))
  have HO0 : Hid ((w.alloc (.cells #[] 74)).ownsRow w.heap.size 74 4 (.slice (some ⟨w.heap.size, 0, none⟩) 0 0) 0 []) := ⟨rfl, .inr ⟨w.heap.size, 0, #[], rfl, Nat.le_refl _, heap_alloc_new _ _, Nat.le_refl _, Nat.zero_le _, rfl, rfl⟩⟩
  have HNO : Hid (finedB ps pc = false → ∀ W, W.ownsRow w.heap.size 74 4 (.slice (some ⟨w.heap.size, 0, none⟩) 0 0) 0 [] → Below w.heap.size w W → ResSI (finedL ps mill pc) (finedN ps mill pc) w (.returned (.tuple #[.slice (some ⟨w.heap.size, 0, none⟩) 0 0, .int .i64 (-1)])) W) := by
    intro hf W ho hb
    rw [finedL, finedN, if_neg (by rw [hf]; decide), if_neg (by rw [hf]; decide)]
    exact resOI_of (o := []) ho hb
  go_enter Tryz.func155, Tryz.ntmps155
  go_wp2_with fail
  refine (sWaitsOk_any _ (H.out.below HB0.out) (by omega) HS.out).mono ?_
  rintro e w1 ⟨rfl, hb1⟩
  have HB1 := Lib.hid (below_trans HB0.out hb1)
  have HO1 := Lib.hid (own_below HO0.out hb1)
  clear hb1 HB0 HO0
  cases hf : waitsB ps
  · have HN := Lib.hid (HNO.out (by simp [finedB, hf]) w1 HO1.out HB1.out)
    go_wp2
    go_ret2
    exact HN.out
  cases hp : inB 0 100 pc
  · have HN := Lib.hid (HNO.out (by simp [finedB, hp]) w1 HO1.out HB1.out)
    go_wp2_with (go_at_call 66; refine (l1In_any _ _ _ _).mono ?_; rintro e w' ⟨rfl, rfl⟩; rw [hp])
    go_ret2
    exact HN.out
  obtain ⟨h20, hu⟩ := waits_true hf
  have HU := Lib.hid hu
  have HFB := Lib.hid (show finedB ps pc = true by simp [finedB, hf, hp])
  have HR0 : Hid (FinRel w ps mill pc (.slice (some ⟨w.heap.size, 0, none⟩) 0 0) (.int .i64 0) (.int .i64 0) w1) :=
    ⟨0, w.heap.size, 0, Nat.zero_le _, rfl, by simp [finSum], by simp [finOf], by simpa [finOf] using HO1.out, HB1.out⟩
  clear hu HO1 HB1 HNO
  go_wp2_with (go_at_call 66; refine (l1In_any _ _ _ _).mono ?_; rintro e w' ⟨rfl, rfl⟩; rw [hp])
  go_loopw [8, 9, 10] (fun v t i wr => FinRel w ps mill pc v t i wr) (fun _ _ i _ => ps.length - (intOf i).toNat)
  case atStart => exact HR0.out
  case round =>
    clear HR0
    obtain ⟨k, g, c, hk, rfl, rfl, rfl, ho, hb⟩ := hrel
    have HO := Lib.hid ho
    have HB := Lib.hid hb
    clear ho hb
    obtain ⟨t1, t2⟩ := fin_bd (mill := mill) HU.out hp k hk
    by_cases hlt : k < ps.length
    · obtain ⟨b', off', rfl, hlb, d0, d1, d2, d3⟩ := Wai.at (H.out.below HB.out) k hlt
      have hlw : w.heap.size ≤ wr.heap.size := HB.out.size
      obtain ⟨-, -, -, hg1, hx1⟩ := own_some HO.out
      obtain ⟨⟨a1, a2⟩, -⟩ := wait_bd (HU.out.1 k hlt hlt)
      have hll := finOf_le mill pc (ps.take k)
      have hlk : (ps.take k).length = k := by simp; omega
      rw [hlk] at hll
      clear hlk
      have HSN := Lib.hid (sum_next (mill := mill) (pc := pc) hlt)
      cases hq : (ps[k].mill.toList == mill.toList)
      · have HCU := Lib.hid (show cutW mill pc ps[k] = 0 by unfold cutW; rw [hq]; rfl)
        have HFW := Lib.hid (show fineW mill pc ps[k] = ps[k] by unfold fineW; rw [HCU.out, Int.sub_zero])
        have HY := Lib.hid (fin_yes (mill := mill) (pc := pc) hlt (by rw [HFW.out]; omega))
        have HA := Lib.hid ((HO.out.alloc (.cells #[.string ps[k].who, .string ps[k].mill, .int .i64 ps[k].amount, .int .i64 ps[k].ripe] 74)).alloc (.cells #[.string ps[k].who, .string ps[k].mill, .int .i64 ps[k].amount, .int .i64 ps[k].ripe] 74))
        have HBN := Lib.hid (below_trans (below_trans HB.out (below_new wr (.cells #[.string ps[k].who, .string ps[k].mill, .int .i64 ps[k].amount, .int .i64 ps[k].ripe] 74))) (below_new _ (.cells #[.string ps[k].who, .string ps[k].mill, .int .i64 ps[k].amount, .int .i64 ps[k].ripe] 74)))
        have HN1 := Lib.hid (rec_new ps[k] (wr.alloc (.cells #[.string ps[k].who, .string ps[k].mill, .int .i64 ps[k].amount, .int .i64 ps[k].ripe] 74)))
        have hpos : (0 : Int) < ps[k].amount := by omega
        have HN2 := Lib.hid (show ∀ j u, ps[k].cs[j]? = some u → ((wr.alloc (.cells #[.string ps[k].who, .string ps[k].mill, .int .i64 ps[k].amount, .int .i64 ps[k].ripe] 74)).alloc (.cells #[.string ps[k].who, .string ps[k].mill, .int .i64 ps[k].amount, .int .i64 ps[k].ripe] 74)).cell? ((⟨wr.heap.size + 1, 0, none⟩ : Addr).add j) = some u by simpa using HN1.out)
        go_wp2_with (at_builtin; refine wpList_append_some rfl _ _ 27 rfl w.heap.size 74 i0 (.agg #[.string ByteArray.empty, .string ByteArray.empty, .int .i64 0, .int .i64 0]) 4 48 Tryz.underlying27 HI.out HZ0.out HZ1.out HZ2.out rfl (by decide) g c _ _ rfl HA.out ⟨wr.heap.size + 1, 0, none⟩ 1 1 ps[k].cs rfl rfl HN2.out (Wai.one _) ?c2 ?c3 ?_)
        case c2 => unfold maxLen; omega
        case c3 => omega
        rintro g6 c6 w6 ⟨h6, h6g, h6b, h6l, h6x⟩
        have HR : Hid (FinRel w ps mill pc (.slice (some ⟨g6, 0, none⟩) ((finOf mill pc (ps.take k)).length + 1) c6) (.int .i64 (finSum mill pc (ps.take k))) (.int .i64 ((k : Int) + 1)) w6) := by
          refine ⟨k + 1, g6, c6, by omega, by go_num, ?_, ?_, ?_, bgrown HBN.out (by simp; omega) h6g (by intro z hz; injection hz with hz; omega)⟩
          · rw [HSN.out, HCU.out, Int.add_zero]
          · rw [HY.out, List.length_append]; rfl
          · rw [HY.out, List.length_append, List.flatMap_append, List.flatMap_singleton, HFW.out]; exact h6
        clear h6 h6g h6b h6l h6x
        go_wp2
        go_roundw
        case rel => first | exact HR.out | (have := HR.out; simpa using this)
        case measure => simp [intOf]; omega
      · have HCU := Lib.hid (show cutW mill pc ps[k] = partV ps[k].amount pc by unfold cutW; rw [hq]; rfl)
        obtain ⟨p1, p2⟩ := partV_bd (n := ps[k].amount) (by omega) (by omega) hp
        obtain ⟨pv, HPV⟩ : ∃ pv, Hid (partV ps[k].amount pc = pv) := ⟨_, Lib.hid rfl⟩
        rw [HPV.out] at p1 p2
        by_cases hpos : 0 < ps[k].amount - pv
        · have HFW := Lib.hid (show fineW mill pc ps[k] = ⟨ps[k].who, ps[k].mill, ps[k].amount - pv, ps[k].ripe⟩ by unfold fineW; rw [HCU.out, HPV.out])
          have HY := Lib.hid (fin_yes (mill := mill) (pc := pc) hlt (by rw [HFW.out]; exact hpos))
          have HA := Lib.hid ((HO.out.alloc (.cells #[.string ps[k].who, .string ps[k].mill, .int .i64 (ps[k].amount - pv), .int .i64 ps[k].ripe] 74)).alloc (.cells #[.string ps[k].who, .string ps[k].mill, .int .i64 (ps[k].amount - pv), .int .i64 ps[k].ripe] 74))
          have HBN := Lib.hid (below_trans (below_trans HB.out (below_new wr (.cells #[.string ps[k].who, .string ps[k].mill, .int .i64 (ps[k].amount - pv), .int .i64 ps[k].ripe] 74))) (below_new _ (.cells #[.string ps[k].who, .string ps[k].mill, .int .i64 (ps[k].amount - pv), .int .i64 ps[k].ripe] 74)))
          have HN1 := Lib.hid (rec_new ⟨ps[k].who, ps[k].mill, ps[k].amount - pv, ps[k].ripe⟩ (wr.alloc (.cells #[.string ps[k].who, .string ps[k].mill, .int .i64 (ps[k].amount - pv), .int .i64 ps[k].ripe] 74)))
          have HN2 := Lib.hid (show ∀ j u, (Wai.cs ⟨ps[k].who, ps[k].mill, ps[k].amount - pv, ps[k].ripe⟩)[j]? = some u → ((wr.alloc (.cells #[.string ps[k].who, .string ps[k].mill, .int .i64 (ps[k].amount - pv), .int .i64 ps[k].ripe] 74)).alloc (.cells #[.string ps[k].who, .string ps[k].mill, .int .i64 (ps[k].amount - pv), .int .i64 ps[k].ripe] 74)).cell? ((⟨wr.heap.size + 1, 0, none⟩ : Addr).add j) = some u by simpa using HN1.out)
          go_wp2_with fail
          refine (sPartOf_any _ _ _).mono ?_
          rw [HPV.out]
          rintro e w' ⟨rfl, rfl⟩
          go_wp2_with (at_builtin; refine wpList_append_some rfl _ _ 27 rfl w.heap.size 74 i0 (.agg #[.string ByteArray.empty, .string ByteArray.empty, .int .i64 0, .int .i64 0]) 4 48 Tryz.underlying27 HI.out HZ0.out HZ1.out HZ2.out rfl (by decide) g c _ _ rfl HA.out ⟨wr.heap.size + 1, 0, none⟩ 1 1 (Wai.cs ⟨ps[k].who, ps[k].mill, ps[k].amount - pv, ps[k].ripe⟩) rfl rfl HN2.out (Wai.one _) ?c2 ?c3 ?_)
          case c2 => unfold maxLen; omega
          case c3 => omega
          rintro g6 c6 w6 ⟨h6, h6g, h6b, h6l, h6x⟩
          have HR : Hid (FinRel w ps mill pc (.slice (some ⟨g6, 0, none⟩) ((finOf mill pc (ps.take k)).length + 1) c6) (.int .i64 (finSum mill pc (ps.take k) + pv)) (.int .i64 ((k : Int) + 1)) w6) := by
            refine ⟨k + 1, g6, c6, by omega, by go_num, ?_, ?_, ?_, bgrown HBN.out (by simp; omega) h6g (by intro z hz; injection hz with hz; omega)⟩
            · rw [HSN.out, HCU.out, HPV.out]
            · rw [HY.out, List.length_append]; rfl
            · rw [HY.out, List.length_append, List.flatMap_append, List.flatMap_singleton, HFW.out]; exact h6
          clear h6 h6g h6b h6l h6x
          go_wp2
          go_roundw
          case rel => first | exact HR.out | (have := HR.out; simpa using this)
          case measure => simp [intOf]; omega
        · have HFW := Lib.hid (show fineW mill pc ps[k] = ⟨ps[k].who, ps[k].mill, ps[k].amount - pv, ps[k].ripe⟩ by unfold fineW; rw [HCU.out, HPV.out])
          have HY := Lib.hid (fin_no (mill := mill) (pc := pc) hlt (by rw [HFW.out]; exact hpos))
          have hpv : pv = ps[k].amount := by omega
          have hpos' : ¬ (0 : Int) < ps[k].amount - pv := hpos
          have HR : Hid (∀ x : Int, FinRel w ps mill pc (.slice (some ⟨g, 0, none⟩) (finOf mill pc (ps.take k)).length c) (.int .i64 (finSum mill pc (ps.take k) + ps[k].amount)) (.int .i64 ((k : Int) + 1)) (wr.alloc (.cells #[.string ps[k].who, .string ps[k].mill, .int .i64 x, .int .i64 ps[k].ripe] 74))) := by
            intro x
            refine ⟨k + 1, g, c, by omega, by go_num, ?_, ?_, ?_, below_trans HB.out (below_new _ _)⟩
            · rw [HSN.out, HCU.out, HPV.out, hpv]
            · rw [HY.out]
            · rw [HY.out]; exact HO.out.alloc _
          go_wp2_with fail
          refine (sPartOf_any _ _ _).mono ?_
          rw [HPV.out]
          rintro e w' ⟨rfl, rfl⟩
          go_wp2
          go_roundw
          case rel => first | exact HR.out _ | (have := HR.out (ps[k].amount - pv); simpa using this)
          case measure => simp [intOf]; omega
    · obtain rfl : k = ps.length := by omega
      have HN := Lib.hid (show ResSI (finedL ps mill pc) (finedN ps mill pc) w (.returned (.tuple #[.slice (some ⟨g, 0, none⟩) (finOf mill pc (ps.take ps.length)).length c, .int .i64 (finSum mill pc (ps.take ps.length))])) wr from by
        rw [finedL, finedN, if_pos HFB.out, if_pos HFB.out]
        have e : ps.take ps.length = ps := List.take_length
        have ho := HO.out
        rw [e] at ho ⊢
        exact resOI_of ho HB.out)
      go_wp2
      go_ret2
      exact HN.out

theorem waitingL_le (ps : List Wai) (q : Wai) : (waitingL ps q).length ≤ 20 := by
  unfold waitingL
  split
  · rename_i hf
    split
    · rename_i hb
      simp only [waitingB, Bool.and_eq_true] at hb
      exact (waits_true hb.2).1
    · exact (waits_true hf).1
  · exact Nat.zero_le _
theorem waitsFor_le (ps : List Wai) (who : ByteArray) : (waitsForV ps who).length ≤ 20 := by
  unfold waitsForV
  split
  · rename_i hf
    exact Nat.le_trans (ofWhoW_le who ps) (waits_true hf).1
  · exact Nat.zero_le _
theorem finedL_le (ps : List Wai) (mill : ByteArray) (pc : Int) : (finedL ps mill pc).length ≤ 20 := by
  unfold finedL
  split
  · rename_i hf
    simp only [finedB, Bool.and_eq_true] at hf
    exact Nat.le_trans (finOf_le mill pc ps) (waits_true hf.1).1
  · exact Nat.zero_le _
theorem laterV_le (ps : List Wai) (season : Int) : (laterV ps season).length ≤ 20 := by
  unfold laterV
  split
  · rename_i hf
    exact Nat.le_trans (later_le season ps) (waits_true hf).1
  · exact Nat.zero_le _
theorem ripeV_le (ps : List Wai) (season : Int) : (ripeV ps season).length ≤ 20 := by
  unfold ripeV
  split
  · rename_i hf
    exact Nat.le_trans (ripe_le season ps) (waits_true hf).1
  · exact Nat.zero_le _
end Go.Proofs.YtlnnchgaloejlaaGreat
namespace Go.Proofs.YtlnnchgaloejlaaGreat
open Go.ChangeShapes Go.WideShapes Go.ChangeAt Go.RowKit

section
variable {α : Type}
/-- The list xs, of the call's own, lies in block g; of each one Z holds; the cursor is right. -/
structure OwnG (f : α → List Value) (c : Nat) (T : TypeId) (Z : α → Prop) (C : Nat) (a : Option Addr) (len cap : Nat) (w : World) (g cp : Nat) (xs : List α) (w' : World) : Prop where
  own : w'.ownsRow w.heap.size T c (.slice (some ⟨g, 0, none⟩) xs.length cp) xs.length (xs.flatMap f)
  all : ∀ x ∈ xs, Z x
  cur : Cur w' C a len cap
  grown : w.grownBy w' (some C)
variable {f : α → List Value} {c : Nat} {T : TypeId} {Z : α → Prop} {C : Nat} {a : Option Addr} {len cap : Nat} {w : World} {g cp : Nat} {xs : List α} {w' w2 : World}
theorem OwnG.lo (h : OwnG f c T Z C a len cap w g cp xs w') : w.heap.size ≤ g ∧ g < w'.heap.size := by
  rcases h.own.2 with ⟨e, _⟩ | ⟨g', cap', cur, e, hb, hh, _⟩
  · cases e
  · injection e with e; injection e with e; injection e with e1; subst e1
    exact ⟨hb, (Array.getElem?_eq_some_iff.1 hh).1⟩
theorem OwnG.draw (h : OwnG f c T Z C a len cap w g cp xs w') (hC : C < w.heap.size) (hc : Cur w2 C a len cap) (hg : w'.grownBy w2 (some C)) : OwnG f c T Z C a len cap w g cp xs w2 :=
  ⟨own_grown h.own hg (fun g hg => by intro e; injection e with e; omega), h.all, hc, grown_step h.grown hg⟩
theorem OwnG.lies (hc : ∀ x, (f x).length = c) (h : OwnG f c T Z C a len cap w g cp xs w') : Recs f w' (some ⟨g, 0, none⟩) xs := by
  rcases h.own.2 with ⟨e, _⟩ | ⟨g', cap', cur, e, hb, hh, _, _, hs, ht⟩
  · cases e
  · injection e with e; injection e with e; injection e with e1; subst e1
    intro k v hk
    have hlt := (List.getElem?_eq_some_iff.1 hk).1
    refine ⟨g, 0, rfl, ?_⟩
    rw [← ht, List.getElem?_take_of_lt (by rw [flat_length hc] at hlt; exact hlt)] at hk
    simpa [World.cell?, hh] using hk
theorem OwnG.free (h : OwnG f c T Z C a len cap w g cp xs w') (o : Nat) : w'.frozen? ⟨g, o, none⟩ = false := by
  rcases h.own.2 with ⟨e, _⟩ | ⟨g', cap', cur, e, hb, hh, _⟩
  · cases e
  · injection e with e; injection e with e; injection e with e1; subst e1
    simp [World.frozen?, hh]
theorem OwnG.block (h : OwnG f c T Z C a len cap w g cp xs w') (n k : Nat) : ∀ z, (Value.slice (some ⟨g, 0, none⟩) n k).ownBlock = some z → w.heap.size ≤ z := by
  intro z hz
  have : g = z := by simpa [Value.ownBlock] using hz
  have := h.lo
  omega
/-- A literal that is cut. -/
theorem ownG_lit {w3 w4 : World} (hcl : ∀ x, (f x).length = c) (hC : C < w.heap.size) (hg3 : w.grownBy w3 (some C)) (qs : List α) (hm : qs.length ≤ 1048576) (hz : ∀ x ∈ qs, Z x)
    (hc : Cur w4 C a len cap) (hg : (w3.alloc (.cells (qs.flatMap f).toArray T)).grownBy w4 (some C)) (n : Nat) (hn : n ≤ qs.length) : OwnG f c T Z C a len cap w w3.heap.size qs.length (qs.take n) w4 := by
  have hl : (qs.take n).length = n := by simp; omega
  have ho : (w3.alloc (.cells (qs.flatMap f).toArray T)).ownsRow w.heap.size T c (.slice (some ⟨w3.heap.size, 0, none⟩) (qs.take n).length qs.length) (qs.take n).length ((qs.take n).flatMap f) := by
    refine ⟨by rw [flat_length hcl], .inr ⟨w3.heap.size, qs.length, (qs.flatMap f).toArray, rfl, hg3.size, heap_alloc_new _ _, by omega, by unfold maxLen; omega, by simp only [List.size_toArray]; exact flat_length hcl qs, ?_⟩⟩
    rw [hl, flat_take hcl]
  exact ⟨own_grown ho hg (fun g hg => by intro e; injection e with e; omega), fun x hx => hz x (List.mem_of_mem_take hx), hc, grown_step (grown_new hg3 _) hg⟩
/-- More are appended. -/
theorem OwnG.more {n k : Nat} {ys : List α} {w3 : World} {g3 c3 : Nat} (h : OwnG f c T Z C a len cap w g cp xs w') (hC : C < w.heap.size) (ha : ∀ b off, a = some ⟨b, off, none⟩ → 0 < len → b < w.heap.size)
    (hx : xs.length = n) (hy : ys.length = k) (hz : ∀ y ∈ ys, Z y) (hcu : Cur w2 C a len cap) (hg2 : w.grownBy w2 (some C)) (m : Nat)
    (hown : w3.ownsRow w.heap.size T c (.slice (some ⟨g3, 0, none⟩) (n + k) c3) (n + k) (xs.flatMap f ++ ys.flatMap f)) (hgr : w2.grownBy w3 (Value.slice (some ⟨g, 0, none⟩) n m).ownBlock) :
    OwnG f c T Z C a len cap w g3 c3 (xs ++ ys) w3 :=
  ⟨by rw [List.length_append, hx, hy, List.flatMap_append]; exact hown, fun x hx => (List.mem_append.1 hx).elim (h.all x) (hz x), hcu.own hgr (h.block n m) hC ha, grown_own hg2 hgr (h.block n m)⟩
end
theorem OwnG.new {α : Type} {f : α → List Value} {c : Nat} {T : TypeId} {Z : α → Prop} {C : Nat} {a : Option Addr} {len cap : Nat} {w : World} {g cp : Nat} {xs : List α} {w' : World} (h : OwnG f c T Z C a len cap w g cp xs w') (o : Obj) : OwnG f c T Z C a len cap w g cp xs (w'.alloc o) :=
  ⟨h.own.alloc o, h.all, h.cur.kept (below_new _ _), grown_new h.grown o⟩
/-- A call that gives back a list of its own, in a draw. -/
theorem OwnG.turn {α : Type} {f : α → List Value} {c : Nat} {T : TypeId} {Z : α → Prop} {C : Nat} {a : Option Addr} {len cap : Nat} {w : World} {g cp : Nat} {xs : List α} {w' w2 : World} {g2 c2 : Nat} {ys : List α} (h : OwnG f c T Z C a len cap w g cp xs w') (ho : w2.ownsRow w'.heap.size T c (.slice (some ⟨g2, 0, none⟩) ys.length c2) ys.length (ys.flatMap f)) (hb : Below w'.heap.size w' w2) (hz : ∀ y ∈ ys, Z y) : OwnG f c T Z C a len cap w g2 c2 ys w2 :=
  ⟨own_down ho h.grown.size, hz, h.cur.kept hb, grown_step h.grown (below_grown hb _)⟩
end Go.Proofs.YtlnnchgaloejlaaGreat
