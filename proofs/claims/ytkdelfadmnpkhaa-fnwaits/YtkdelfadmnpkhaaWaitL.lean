/-
  What the program's Fined answers: a list of the call's own, and how much in all.
-/
import Derived.Test.YtkdelfadmnpkhaaWaitK
namespace Go.Proofs.Ytkdelfadmnpkhaa
open Go.ChangeShapes Go.WideShapes Go.ChangeAt Go.RowKit

/-- Number 2 of a record's cells is written over. -/
theorem set_amount {w : World} {B : Nat} {p : Wai} (h : RecAt Wai.cs w B p) (x : Int) : RecAt Wai.cs (w.setCell ⟨B, 2, none⟩ (.int .i64 x)) B ⟨p.who, p.mill, x, p.ripe⟩ := by
  intro j v hj
  match j, hj with
  | 0, hj => rw [World.cell?_setCell_other _ _ _ _ (by intro q; injection q with _ q; omega)]; exact h 0 v hj
  | 1, hj => rw [World.cell?_setCell_other _ _ _ _ (by intro q; injection q with _ q; omega)]; exact h 1 v hj
  | 2, hj => rw [World.cell?_setCell_same _ _ _ (h 2 _ rfl)]; exact hj
  | 3, hj => rw [World.cell?_setCell_other _ _ _ _ (by intro q; injection q with _ q; omega)]; exact h 3 v hj
  | j + 4, hj => simp [Wai.cs] at hj

set_option maxHeartbeats 8000000 in
set_option maxRecDepth 100000 in
theorem iFined_any {w : World} {b off : Nat} {ps : List Wai} (cap : Nat) (mill : ByteArray) (pc : Int) (h : Recs Wai.cs w (some ⟨b, off, none⟩) ps) (_ : ps.length ≤ cap) (hl : ps.length ≤ 1048576) (hs : WSized ps) (_ : mill.size ≤ maxLen) :
    Calls Try.prog 27 #[.slice (some ⟨b, off, none⟩) ps.length cap, .string mill, .int .i64 pc] w (ResOI Wai.cs 4 (finedL ps mill pc) (finedN ps mill pc) w) := by
  have H := Lib.hid h
  have HS := Lib.hid hs
  clear h hs
  obtain ⟨i0, hi, hz0, hz1, hz2⟩ := info_parts info_Wait
  have HI := Lib.hid hi
  have HZ0 := Lib.hid hz0
  have HZ1 := Lib.hid hz1
  have HZ2 := Lib.hid hz2
  clear hi hz0 hz1 hz2
  have HNO : Hid (finedB ps pc = false → ∀ W, Below w.heap.size w W → ResOI Wai.cs 4 (finedL ps mill pc) (finedN ps mill pc) w (.returned (.tuple #[.slice none 0 0, .int .i64 (-1)])) W) := by
    intro hf W hb
    rw [finedL, finedN, if_neg (by rw [hf]; decide), if_neg (by rw [hf]; decide)]
    exact ⟨none, 0, rfl, ⟨Lies.nil _ _, .inl rfl⟩, hb, Nat.le_refl _⟩
  go_enter Try.func27, Try.ntmps27
  go_wp2_with fail
  refine (iWaitsOk_any _ H.out (by omega) HS.out).mono ?_
  rintro e w1 ⟨rfl, hb1⟩
  have HB1 := Lib.hid hb1
  clear hb1
  cases hf : waitsB ps
  · have HN := Lib.hid (HNO.out (by simp [finedB, hf]) w1 HB1.out)
    go_wp2
    go_ret2
    exact HN.out
  cases hp : inB 0 100 pc
  · have HN := Lib.hid (HNO.out (by simp [finedB, hp]) w1 HB1.out)
    go_wp2_with (go_at_call 53; refine (within_any _ _ _).mono ?_; rintro e w' ⟨rfl, rfl⟩; rw [hp])
    go_ret2
    exact HN.out
  obtain ⟨h20, hu⟩ := waits_true hf
  have HU := Lib.hid hu
  have HFB := Lib.hid (show finedB ps pc = true by simp [finedB, hf, hp])
  have hle1 : w.heap.size ≤ w1.heap.size := HB1.out.size
  have HR0 : Hid (FinRel w ps mill pc (.slice (some ⟨w1.heap.size, 0, none⟩) 0 0) (.int .i64 0) (.int .i64 0) (w1.alloc (.cells #[] 26))) :=
    ⟨0, w1.heap.size, 0, Nat.zero_le _, rfl, by simp [finSum], by simp [finOf], ⟨by simp [finOf], .inr ⟨w1.heap.size, 0, #[], by simp [finOf], hle1, heap_alloc_new _ _, by simp [finOf], Nat.zero_le _, by simp, by simp [finOf]⟩⟩, below_trans HB1.out (below_new _ _)⟩
  clear hu HB1 HNO
  go_wp2_with (go_at_call 53; refine (within_any _ _ _).mono ?_; rintro e w' ⟨rfl, rfl⟩; rw [hp])
  go_loopw [8, 9, 24] (fun v t i wr => FinRel w ps mill pc v t i wr) (fun _ _ i _ => ps.length - (intOf i).toNat)
  case atStart => exact HR0.out
  case round =>
    clear HR0
    obtain ⟨k, g, c, hk, rfl, rfl, rfl, ho, hb⟩ := hrel
    have HO := Lib.hid ho
    have HB := Lib.hid hb
    clear ho hb
    obtain ⟨t1, t2⟩ := fin_bd (mill := mill) HU.out hp k hk
    by_cases hlt : k < ps.length
    · obtain ⟨b', off', e', hlb, d0, d1, d2, d3⟩ := Wai.at (H.out.below HB.out) k hlt
      injection e' with e'; injection e' with e1 e2; subst e1; subst e2
      have hlw : w.heap.size ≤ wr.heap.size := HB.out.size
      obtain ⟨-, -, -, hg1, hx1⟩ := own_some HO.out
      obtain ⟨⟨a1, a2⟩, -⟩ := wait_bd (HU.out.1 k hlt hlt)
      have hll := finOf_le mill pc (ps.take k)
      have hlk : (ps.take k).length = k := by simp; omega
      rw [hlk] at hll
      clear hlk
      have HSN := Lib.hid (sum_next (mill := mill) (pc := pc) hlt)
      cases hq : (ps[k].mill.toList == mill.toList)
      · have HCU := Lib.hid (show cutW mill pc ps[k] = 0 by unfold cutW; rw [hq]; rfl)
        have HFW := Lib.hid (show fineW mill pc ps[k] = ps[k] by unfold fineW; rw [HCU.out, Int.sub_zero])
        have HY := Lib.hid (fin_yes (mill := mill) (pc := pc) hlt (by rw [HFW.out]; omega))
        have HA := Lib.hid ((HO.out.alloc (.cells #[.string ps[k].who, .string ps[k].mill, .int .i64 ps[k].amount, .int .i64 ps[k].ripe] 26)).alloc (.cells #[.string ps[k].who, .string ps[k].mill, .int .i64 ps[k].amount, .int .i64 ps[k].ripe] 26))
        have HBN := Lib.hid (below_trans (below_trans HB.out (below_new wr (.cells #[.string ps[k].who, .string ps[k].mill, .int .i64 ps[k].amount, .int .i64 ps[k].ripe] 26))) (below_new _ (.cells #[.string ps[k].who, .string ps[k].mill, .int .i64 ps[k].amount, .int .i64 ps[k].ripe] 26)))
        have HN1 := Lib.hid (rec_new ps[k] (wr.alloc (.cells #[.string ps[k].who, .string ps[k].mill, .int .i64 ps[k].amount, .int .i64 ps[k].ripe] 26)))
        have hpos : (0 : Int) < ps[k].amount := by omega
        have HN2 := Lib.hid (show ∀ j u, ps[k].cs[j]? = some u → ((wr.alloc (.cells #[.string ps[k].who, .string ps[k].mill, .int .i64 ps[k].amount, .int .i64 ps[k].ripe] 26)).alloc (.cells #[.string ps[k].who, .string ps[k].mill, .int .i64 ps[k].amount, .int .i64 ps[k].ripe] 26)).cell? ((⟨wr.heap.size + 1, 0, none⟩ : Addr).add j) = some u by simpa using HN1.out)
        go_wp2_with (at_builtin; refine wpList_append_some rfl _ _ 24 rfl w.heap.size 26 i0 (.agg #[.string ByteArray.empty, .string ByteArray.empty, .int .i64 0, .int .i64 0]) 4 48 Try.underlying24 HI.out HZ0.out HZ1.out HZ2.out rfl (by decide) g c _ _ rfl HA.out ⟨wr.heap.size + 1, 0, none⟩ 1 1 ps[k].cs rfl rfl HN2.out (Wai.one _) ?c2 ?c3 ?_)
        case c2 => unfold maxLen; omega
        case c3 => omega
        rintro g6 c6 w6 ⟨h6, h6g, h6b, h6l, h6x⟩
        have HR : Hid (FinRel w ps mill pc (.slice (some ⟨g6, 0, none⟩) ((finOf mill pc (ps.take k)).length + 1) c6) (.int .i64 (finSum mill pc (ps.take k))) (.int .i64 ((k : Int) + 1)) w6) := by
          refine ⟨k + 1, g6, c6, by omega, by go_num, ?_, ?_, ?_, bgrown HBN.out (by simp; omega) h6g (by intro z hz; injection hz with hz; omega)⟩
          · rw [HSN.out, HCU.out, Int.add_zero]
          · rw [HY.out, List.length_append]; rfl
          · rw [HY.out, List.length_append, List.flatMap_append, List.flatMap_singleton, HFW.out]; exact h6
        clear h6 h6g h6b h6l h6x
        go_wp2
        go_roundw
        case rel => first | exact HR.out | (have := HR.out; simpa using this)
        case measure => simp [intOf]; omega
      · have HCU := Lib.hid (show cutW mill pc ps[k] = partV ps[k].amount pc by unfold cutW; rw [hq]; rfl)
        obtain ⟨p1, p2⟩ := partV_bd (n := ps[k].amount) (by omega) (by omega) hp
        obtain ⟨pv, HPV⟩ : ∃ pv, Hid (partV ps[k].amount pc = pv) := ⟨_, Lib.hid rfl⟩
        rw [HPV.out] at p1 p2
        have HFW := Lib.hid (show fineW mill pc ps[k] = ⟨ps[k].who, ps[k].mill, ps[k].amount - pv, ps[k].ripe⟩ by unfold fineW; rw [HCU.out, HPV.out])
        have HX1 := Lib.hid (show RecAt Wai.cs (wr.alloc (.cells #[.string ps[k].who, .string ps[k].mill, .int .i64 ps[k].amount, .int .i64 ps[k].ripe] 26)) wr.heap.size ps[k] from RecAt.new Wai.cs wr ps[k] 26)
        have HA1 := Lib.hid (HO.out.alloc (.cells #[.string ps[k].who, .string ps[k].mill, .int .i64 ps[k].amount, .int .i64 ps[k].ripe] 26))
        have HB1 := Lib.hid (below_trans HB.out (below_new wr (.cells #[.string ps[k].who, .string ps[k].mill, .int .i64 ps[k].amount, .int .i64 ps[k].ripe] 26)))
        have HF1 := Lib.hid (show (wr.alloc (.cells #[.string ps[k].who, .string ps[k].mill, .int .i64 ps[k].amount, .int .i64 ps[k].ripe] 26)).frozen? ⟨wr.heap.size, 2, none⟩ = false from free_new _ _ _ _)
        go_wp2_with fail
        refine (iPartOf_any _ _ _).mono ?_
        rw [HPV.out]
        rintro e w2 ⟨rfl, hf2, -⟩
        have hx2 := HX1.out.below hf2
        have y0 := hx2 0 _ rfl
        have y1 := hx2 1 _ rfl
        have y2 := hx2 2 _ rfl
        have y3 := hx2 3 _ rfl
        have hwl : wr.heap.size < (wr.alloc (.cells #[.string ps[k].who, .string ps[k].mill, .int .i64 ps[k].amount, .int .i64 ps[k].ripe] 26)).heap.size := by simp
        have yf := (hf2.frozen (p := ⟨wr.heap.size, 2, none⟩) hwl).trans HF1.out
        have HX3 := Lib.hid (set_amount hx2 (ps[k].amount - pv))
        have hw2 : wr.heap.size < w2.heap.size := at_lt y0
        have HA3 := Lib.hid ((own_below HA1.out hf2).kept (gset (gid w2 (some wr.heap.size)) (o := 2) (.int .i64 (ps[k].amount - pv))) (.inr (by intro e; injection e with e; simp at e; omega)))
        have HB3 := Lib.hid (below_set (below_trans HB1.out hf2) (j := 2) (show w.heap.size ≤ wr.heap.size from hlw) (.int .i64 (ps[k].amount - pv)))
        clear hx2 hf2 HX1 HA1 HB1 HF1 hwl
        by_cases hpos : 0 < ps[k].amount - pv
        · have HY := Lib.hid (fin_yes (mill := mill) (pc := pc) hlt (by rw [HFW.out]; exact hpos))
          have HA4 := Lib.hid (HA3.out.alloc (.cells #[.string ps[k].who, .string ps[k].mill, .int .i64 (ps[k].amount - pv), .int .i64 ps[k].ripe] 26))
          have HB4 := Lib.hid (below_trans HB3.out (below_new _ (.cells #[.string ps[k].who, .string ps[k].mill, .int .i64 (ps[k].amount - pv), .int .i64 ps[k].ripe] 26)))
          have HN2 := Lib.hid (show ∀ j u, (Wai.cs ⟨ps[k].who, ps[k].mill, ps[k].amount - pv, ps[k].ripe⟩)[j]? = some u → ((w2.setCell ⟨wr.heap.size, 2, none⟩ (.int .i64 (ps[k].amount - pv))).alloc (.cells #[.string ps[k].who, .string ps[k].mill, .int .i64 (ps[k].amount - pv), .int .i64 ps[k].ripe] 26)).cell? ((⟨w2.heap.size, 0, none⟩ : Addr).add j) = some u by
            have := rec_new ⟨ps[k].who, ps[k].mill, ps[k].amount - pv, ps[k].ripe⟩ (w2.setCell ⟨wr.heap.size, 2, none⟩ (.int .i64 (ps[k].amount - pv)))
            simpa [World.setCell] using this)
          go_wp2_with (at_builtin; refine wpList_append_some rfl _ _ 24 rfl w.heap.size 26 i0 (.agg #[.string ByteArray.empty, .string ByteArray.empty, .int .i64 0, .int .i64 0]) 4 48 Try.underlying24 HI.out HZ0.out HZ1.out HZ2.out rfl (by decide) g c _ _ rfl HA4.out ⟨w2.heap.size, 0, none⟩ 1 1 (Wai.cs ⟨ps[k].who, ps[k].mill, ps[k].amount - pv, ps[k].ripe⟩) rfl rfl HN2.out (Wai.one _) ?c2 ?c3 ?_)
          case c2 => unfold maxLen; omega
          case c3 => omega
          rintro g6 c6 w6 ⟨h6, h6g, h6b, h6l, h6x⟩
          have HR : Hid (FinRel w ps mill pc (.slice (some ⟨g6, 0, none⟩) ((finOf mill pc (ps.take k)).length + 1) c6) (.int .i64 (finSum mill pc (ps.take k) + pv)) (.int .i64 ((k : Int) + 1)) w6) := by
            refine ⟨k + 1, g6, c6, by omega, by go_num, ?_, ?_, ?_, bgrown HB4.out (by simp; omega) h6g (by intro z hz; injection hz with hz; omega)⟩
            · rw [HSN.out, HCU.out, HPV.out]
            · rw [HY.out, List.length_append]; rfl
            · rw [HY.out, List.length_append, List.flatMap_append, List.flatMap_singleton, HFW.out]; exact h6
          clear h6 h6g h6b h6l h6x
          go_wp2
          go_roundw
          case rel => first | exact HR.out | (have := HR.out; simpa using this)
          case measure => simp [intOf]; omega
        · have HY := Lib.hid (fin_no (mill := mill) (pc := pc) hlt (by rw [HFW.out]; exact hpos))
          have HR : Hid (FinRel w ps mill pc (.slice (some ⟨g, 0, none⟩) (finOf mill pc (ps.take k)).length c) (.int .i64 (finSum mill pc (ps.take k) + pv)) (.int .i64 ((k : Int) + 1)) (w2.setCell ⟨wr.heap.size, 2, none⟩ (.int .i64 (ps[k].amount - pv)))) := by
            refine ⟨k + 1, g, c, by omega, by go_num, ?_, ?_, ?_, HB3.out⟩
            · rw [HSN.out, HCU.out, HPV.out]
            · rw [HY.out]
            · rw [HY.out]; exact HA3.out
          go_wp2
          go_roundw
          case rel => first | exact HR.out | (have := HR.out; simpa using this)
          case measure => simp [intOf]; omega
    · obtain rfl : k = ps.length := by omega
      have HN := Lib.hid (show ResOI Wai.cs 4 (finedL ps mill pc) (finedN ps mill pc) w (.returned (.tuple #[.slice (some ⟨g, 0, none⟩) (finOf mill pc (ps.take ps.length)).length c, .int .i64 (finSum mill pc (ps.take ps.length))])) wr from by
        rw [finedL, finedN, if_pos HFB.out, if_pos HFB.out]
        have e : ps.take ps.length = ps := List.take_length
        have ho := HO.out
        rw [e] at ho ⊢
        exact resOI_of ho HB.out)
      go_wp2
      go_ret2
      exact HN.out
end Go.Proofs.Ytkdelfadmnpkhaa
