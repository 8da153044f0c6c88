/-
  What chapter 6's RipeAt answers, the model's: two lists of the call's own.
-/
import Derived.Test.YtkdelfadmnpkhaaWaitT
namespace Go.Proofs.Ytkdelfadmnpkhaa
open Go.ChangeShapes Go.WideShapes Go.ChangeAt Go.RowKit

/-- Those that are ripe later, and those that are not. -/
def laterOf (season : Int) (ps : List Wai) : List Wai := ps.filter fun p => decide (season < p.ripe)
def ripeOf (season : Int) (ps : List Wai) : List Wai := ps.filter fun p => !decide (season < p.ripe)
noncomputable def laterV (ps : List Wai) (season : Int) : List Wai := if waitsB ps = true then laterOf season ps else []
noncomputable def ripeV (ps : List Wai) (season : Int) : List Wai := if waitsB ps = true then ripeOf season ps else []
theorem later_yes {ps : List Wai} {season : Int} {k : Nat} (h : k < ps.length) (hq : season < ps[k].ripe) : laterOf season (ps.take (k + 1)) = laterOf season (ps.take k) ++ [ps[k]] ∧ ripeOf season (ps.take (k + 1)) = ripeOf season (ps.take k) := by
  unfold laterOf ripeOf
  rw [List.take_succ_eq_append_getElem h, List.filter_append, List.filter_append]
  simp [hq]
theorem later_no {ps : List Wai} {season : Int} {k : Nat} (h : k < ps.length) (hq : ¬ season < ps[k].ripe) : laterOf season (ps.take (k + 1)) = laterOf season (ps.take k) ∧ ripeOf season (ps.take (k + 1)) = ripeOf season (ps.take k) ++ [ps[k]] := by
  unfold laterOf ripeOf
  rw [List.take_succ_eq_append_getElem h, List.filter_append, List.filter_append]
  simp [hq]
theorem later_le (season : Int) (ps : List Wai) : (laterOf season ps).length ≤ ps.length := List.length_filter_le _ _
theorem ripe_le (season : Int) (ps : List Wai) : (ripeOf season ps).length ≤ ps.length := List.length_filter_le _ _

/-- The loop's word. -/
def RipeRel (w : World) (ps : List Wai) (season : Int) (v u i : Value) (wr : World) : Prop :=
  ∃ k g1 c1 g2 c2 : Nat, k ≤ ps.length ∧ i = .int .i64 k ∧ v = .slice (some ⟨g1, 0, none⟩) (laterOf season (ps.take k)).length c1 ∧ u = .slice (some ⟨g2, 0, none⟩) (ripeOf season (ps.take k)).length c2 ∧ g1 ≠ g2 ∧
    wr.ownsRow w.heap.size 26 4 (.slice (some ⟨g1, 0, none⟩) (laterOf season (ps.take k)).length c1) (laterOf season (ps.take k)).length ((laterOf season (ps.take k)).flatMap Wai.cs) ∧
    wr.ownsRow w.heap.size 26 4 (.slice (some ⟨g2, 0, none⟩) (ripeOf season (ps.take k)).length c2) (ripeOf season (ps.take k)).length ((ripeOf season (ps.take k)).flatMap Wai.cs) ∧ Below w.heap.size w wr ∧ (k = 0 ∨ waitsB ps = true)
theorem resOO_of {w w' : World} {g1 c1 g2 c2 : Nat} {o1 o2 : List Wai} (h1 : w'.ownsRow w.heap.size 26 4 (.slice (some ⟨g1, 0, none⟩) o1.length c1) o1.length (o1.flatMap Wai.cs)) (h2 : w'.ownsRow w.heap.size 26 4 (.slice (some ⟨g2, 0, none⟩) o2.length c2) o2.length (o2.flatMap Wai.cs)) (hne : g1 ≠ g2) (hb : Below w.heap.size w w') :
    ResOO Wai.cs 4 o1 o2 w (.returned (.tuple #[.slice (some ⟨g1, 0, none⟩) o1.length c1, .slice (some ⟨g2, 0, none⟩) o2.length c2])) w' := by
  obtain ⟨a1, k1, e1, r1, -⟩ := ownR_of Wai.len h1
  obtain ⟨a2, k2, e2, r2, -⟩ := ownR_of Wai.len h2
  injection e1 with e1 _ e3
  injection e2 with e2 _ e4
  subst e1; subst e3; subst e2; subst e4
  refine ⟨_, _, _, _, rfl, r1, r2, ?_, hb⟩
  intro b1 b2 h1 h2 _ _
  injection h1 with h1; injection h1 with h1
  injection h2 with h2; injection h2 with h2
  omega

set_option maxHeartbeats 4000000 in
set_option maxRecDepth 100000 in
theorem sRipeAt_any {w : World} {a : Option Addr} {ps : List Wai} (cap : Nat) (season : Int) (h : Recs Wai.cs w a ps) (hl : ps.length ≤ 1048576) (hs : WSized ps) :
    Calls Try.prog 25 #[.slice a ps.length cap, .int .i64 season] w (ResOO Wai.cs 4 (laterV ps season) (ripeV ps season) w) := by
  have H := Lib.hid h
  have HS := Lib.hid hs
  clear h hs
  obtain ⟨i0, hi, hz0, hz1, hz2⟩ := info_parts info_Wait
  have HI := Lib.hid hi
  have HZ0 := Lib.hid hz0
  have HZ1 := Lib.hid hz1
  have HZ2 := Lib.hid hz2
  clear hi hz0 hz1 hz2
  have HR0 : Hid (RipeRel w ps season (.slice (some ⟨w.heap.size, 0, none⟩) 0 0) (.slice (some ⟨w.heap.size + 1, 0, none⟩) 0 0) (.int .i64 0) ((w.alloc (.cells #[] 26)).alloc (.cells #[] 26))) := by
    have o1 : (w.alloc (.cells #[] 26)).ownsRow w.heap.size 26 4 (.slice (some ⟨w.heap.size, 0, none⟩) 0 0) 0 [] := ⟨rfl, .inr ⟨w.heap.size, 0, #[], rfl, Nat.le_refl _, heap_alloc_new _ _, Nat.le_refl _, Nat.zero_le _, rfl, rfl⟩⟩
    have o2 : ((w.alloc (.cells #[] 26)).alloc (.cells #[] 26)).ownsRow w.heap.size 26 4 (.slice (some ⟨(w.alloc (.cells #[] 26)).heap.size, 0, none⟩) 0 0) 0 [] := ⟨rfl, .inr ⟨_, 0, #[], rfl, by simp, heap_alloc_new _ _, Nat.le_refl _, Nat.zero_le _, rfl, rfl⟩⟩
    refine ⟨0, w.heap.size, 0, w.heap.size + 1, 0, Nat.zero_le _, rfl, by simp [laterOf], by simp [ripeOf], by omega, by simpa [laterOf] using o1.alloc _, by simpa [ripeOf] using o2, below_trans (below_new _ _) (below_new _ _), .inl rfl⟩
  go_enter Try.func25, Try.ntmps25
  go_wp2_with fail
  go_loopw [6, 7, 8] (fun v u i wr => RipeRel w ps season v u i wr) (fun _ _ i _ => ps.length - (intOf i).toNat)
  case atStart => exact HR0.out
  case round =>
    clear HR0
    obtain ⟨k, g1, c1, g2, c2, hk, rfl, rfl, rfl, hne, ho1, ho2, hb, hor⟩ := hrel
    have HO1 := Lib.hid ho1
    have HO2 := Lib.hid ho2
    have HB := Lib.hid hb
    have HOR := Lib.hid hor
    clear ho1 ho2 hb hor
    by_cases hlt : k < ps.length
    · go_wp2_with fail
      refine (sWaitsOk_any _ (H.out.below HB.out) (by omega) HS.out).mono ?_
      rintro e w2 ⟨rfl, hb2⟩
      have HP1 := Lib.hid (own_below HO1.out hb2)
      have HP2 := Lib.hid (own_below HO2.out hb2)
      have HB2 := Lib.hid (below_trans HB.out hb2)
      clear hb2 HO1 HO2 HB
      cases hf : waitsB ps
      · have HK := Lib.hid (show k = 0 from by rcases HOR.out with h | h; exact h; rw [h] at hf; cases hf)
        have HD : Hid (ResOO Wai.cs 4 (laterV ps season) (ripeV ps season) w (.returned (.tuple #[.slice (some ⟨g1, 0, none⟩) (laterOf season (ps.take k)).length c1, .slice (some ⟨g2, 0, none⟩) (ripeOf season (ps.take k)).length c2])) w2) := by
          have h1 := HP1.out
          have h2 := HP2.out
          have e1 : laterV ps season = laterOf season (ps.take k) := by rw [HK.out]; simp [laterV, hf, laterOf]
          have e2 : ripeV ps season = ripeOf season (ps.take k) := by rw [HK.out]; simp [ripeV, hf, ripeOf]
          rw [e1, e2]
          exact resOO_of h1 h2 hne HB2.out
        go_wp2
        go_ret2
        exact HD.out
      · obtain ⟨b, off, rfl, hlb, d0, d1, d2, d3⟩ := Wai.at (H.out.below HB2.out) k hlt
        have hle2 : w.heap.size ≤ w2.heap.size := HB2.out.size
        obtain ⟨-, -, -, hg1, hx1⟩ := own_some HP1.out
        obtain ⟨-, -, -, hg2, hx2⟩ := own_some HP2.out
        have hlk : (ps.take k).length = k := by simp; omega
        have HN1 := Lib.hid (rec_new ps[k] w2)
        have HA1 := Lib.hid (HP1.out.alloc (.cells #[.string ps[k].who, .string ps[k].mill, .int .i64 ps[k].amount, .int .i64 ps[k].ripe] 26))
        have HA2 := Lib.hid (HP2.out.alloc (.cells #[.string ps[k].who, .string ps[k].mill, .int .i64 ps[k].amount, .int .i64 ps[k].ripe] 26))
        have HBN := Lib.hid (below_trans HB2.out (below_new w2 (.cells #[.string ps[k].who, .string ps[k].mill, .int .i64 ps[k].amount, .int .i64 ps[k].ripe] 26)))
        have hl1 := later_le season (ps.take k)
        have hl2 := ripe_le season (ps.take k)
        rw [hlk] at hl1 hl2
        by_cases hq : season < ps[k].ripe
        · have HY := Lib.hid (later_yes hlt hq)
          go_wp2_with (at_builtin; refine wpList_append_some rfl _ _ 24 rfl w.heap.size 26 i0 (.agg #[.string ByteArray.empty, .string ByteArray.empty, .int .i64 0, .int .i64 0]) 4 48 Try.underlying24 HI.out HZ0.out HZ1.out HZ2.out rfl (by decide) g1 c1 _ _ rfl HA1.out ⟨w2.heap.size, 0, none⟩ 1 1 ps[k].cs rfl rfl HN1.out (Wai.one _) ?c2 ?c3 ?_)
          case c2 => unfold maxLen; omega
          case c3 => omega
          rintro g6 c6 w6 ⟨h6, h6g, h6b, h6l, h6x, h6y⟩
          have HR : Hid (RipeRel w ps season (.slice (some ⟨g6, 0, none⟩) ((laterOf season (ps.take k)).length + 1) c6) (.slice (some ⟨g2, 0, none⟩) (ripeOf season (ps.take k)).length c2) (.int .i64 ((k : Int) + 1)) w6) := by
            have hne6 : g6 ≠ g2 := by
              rcases h6y with e | e
              · omega
              · simp at e; omega
            refine ⟨k + 1, g6, c6, g2, c2, by omega, by go_num, ?_, ?_, hne6, ?_, ?_, bgrown HBN.out (by simp; omega) h6g (by intro z hz; injection hz with hz; omega), .inr hf⟩
            · rw [HY.out.1, List.length_append]; rfl
            · rw [HY.out.2]
            · rw [HY.out.1, List.length_append, List.flatMap_append, List.flatMap_singleton]; exact h6
            · rw [HY.out.2]; exact HA2.out.kept h6g (.inr (by intro e; injection e with e; exact hne e.symm))
          clear h6 h6g h6b h6l h6x h6y
          go_wp2
          go_roundw
          case rel => first | exact HR.out | (have := HR.out; simpa using this)
          case measure => simp [intOf]; omega
        · have HY := Lib.hid (later_no hlt hq)
          go_wp2_with (at_builtin; refine wpList_append_some rfl _ _ 24 rfl w.heap.size 26 i0 (.agg #[.string ByteArray.empty, .string ByteArray.empty, .int .i64 0, .int .i64 0]) 4 48 Try.underlying24 HI.out HZ0.out HZ1.out HZ2.out rfl (by decide) g2 c2 _ _ rfl HA2.out ⟨w2.heap.size, 0, none⟩ 1 1 ps[k].cs rfl rfl HN1.out (Wai.one _) ?c2 ?c3 ?_)
          case c2 => unfold maxLen; omega
          case c3 => omega
          rintro g6 c6 w6 ⟨h6, h6g, h6b, h6l, h6x, h6y⟩
          have HR : Hid (RipeRel w ps season (.slice (some ⟨g1, 0, none⟩) (laterOf season (ps.take k)).length c1) (.slice (some ⟨g6, 0, none⟩) ((ripeOf season (ps.take k)).length + 1) c6) (.int .i64 ((k : Int) + 1)) w6) := by
            have hne6 : g1 ≠ g6 := by
              rcases h6y with e | e
              · omega
              · simp at e; omega
            refine ⟨k + 1, g1, c1, g6, c6, by omega, by go_num, ?_, ?_, hne6, ?_, ?_, bgrown HBN.out (by simp; omega) h6g (by intro z hz; injection hz with hz; omega), .inr hf⟩
            · rw [HY.out.1]
            · rw [HY.out.2, List.length_append]; rfl
            · rw [HY.out.1]; exact HA1.out.kept h6g (.inr (by intro e; injection e with e; exact hne e))
            · rw [HY.out.2, List.length_append, List.flatMap_append, List.flatMap_singleton]; exact h6
          clear h6 h6g h6b h6l h6x h6y
          go_wp2
          go_roundw
          case rel => first | exact HR.out | (have := HR.out; simpa using this)
          case measure => simp [intOf]; omega
    · obtain rfl : k = ps.length := by omega
      have HD : Hid (ResOO Wai.cs 4 (laterV ps season) (ripeV ps season) w (.returned (.tuple #[.slice (some ⟨g1, 0, none⟩) (laterOf season (ps.take ps.length)).length c1, .slice (some ⟨g2, 0, none⟩) (ripeOf season (ps.take ps.length)).length c2])) wr) := by
        have e1 : laterV ps season = laterOf season (ps.take ps.length) := by
          rcases HOR.out with h0 | h1
          · have : ps = [] := List.eq_nil_of_length_eq_zero h0
            subst this; simp [laterV, laterOf]
          · simp [laterV, h1]
        have e2 : ripeV ps season = ripeOf season (ps.take ps.length) := by
          rcases HOR.out with h0 | h1
          · have : ps = [] := List.eq_nil_of_length_eq_zero h0
            subst this; simp [ripeV, ripeOf]
          · simp [ripeV, h1]
        rw [e1, e2]
        exact resOO_of HO1.out HO2.out hne HB.out
      go_wp2
      go_ret2
      exact HD.out
end Go.Proofs.Ytkdelfadmnpkhaa
