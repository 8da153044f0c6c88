/-
  Texts joined: ReadL, DeeI, DeeJ, DeeK, LikeD, TextG, ArgStrs, GlobL.
-/
import Derived.Test.YtoabpbdjffonlaaGreatDoorP1
import Derived.Test.YtoabpbdjffonlaaGreatDoorP4
import Derived.Test.YtoabpbdjffonlaaGreatDoorP9
import Derived.Test.YtoabpbdjffonlaaGreatDoorP12
import Derived.Test.YtoabpbdjffonlaaGreatDoorP13
import Derived.Test.YtoabpbdjffonlaaGreatDoorP14
import Derived.SliceStrings
import Derived.ShutString
import Derived.ChangeOld
import Derived.Carry
import Derived.LaidLaws
import Derived.Stop.LaidErr
import Derived.MakeChecks
namespace Go.Proofs.YtoabpbdjffonlaaGreatDoor
open Go.ChangeShapes Go.WideShapes Go.ChangeAt Go.RowKit

/-- What ReadDeeds hands back. -/
def ResL (o : Option (List Dee)) (w : World) (e : Ending) (w' : World) : Prop :=
  ∃ (a : Option Addr) (cap : Nat), e = .returned (.tuple #[.slice a (o.getD []).length cap, .bool o.isSome]) ∧ OwnR Dee.cs 5 w' w.heap.size a (o.getD []) ∧ Below w.heap.size w w'
/-- What its loop has behind it. -/
structure RdsRel (s : ByteArray) (ss : List ByteArray) (w : World) (b off : Nat) (j : Nat) (out : List Dee) (v : Value) (wr : World) : Prop where
  own : wr.ownsRow w.heap.size 25 5 v out.length (out.flatMap Dee.cs)
  all : readAll (ss.drop j) out = readsB s
  st : Strs wr (some ⟨b, off, none⟩) ss
  below : Below w.heap.size w wr
  few : out.length ≤ 20
  far : ∀ g, v.ownBlock = some g → g ≠ b
  bl : b < wr.heap.size
theorem readAll_at {ss : List ByteArray} {out : List Dee} {j : Nat} (h : j < ss.length) : readAll (ss.drop j) out = match readB (sat ss j) with
    | none => none
    | some d => if out.length = 20 then none else readAll (ss.drop (j + 1)) (out ++ [d]) := by
  rw [List.drop_eq_getElem_cons h, readAll, sat_eq h]
  cases readB ss[j] <;> rfl
theorem RdsRel.step {s : ByteArray} {ss : List ByteArray} {w wr w' : World} {b off j : Nat} {out : List Dee} {v : Value} (h : RdsRel s ss w b off j out v wr) (hb : Below wr.heap.size wr w') : RdsRel s ss w b off j out v w' :=
  ⟨own_below h.own hb, h.all, strs_below h.st hb, below_trans h.below hb, h.few, h.far, Nat.lt_of_lt_of_le h.bl hb.size⟩
theorem resL_none {w w' : World} (h : Below w.heap.size w w') (hl : w.heap.size ≤ w'.heap.size) : ResL none w (.returned (.tuple #[.slice (some ⟨w'.heap.size, 0, none⟩) 0 0, .bool false])) (w'.alloc (.cells #[] 25)) := by
  have e := ownR_new (f := Dee.cs) (c := 5) Dee.len w' [] 25
  exact ⟨_, _, rfl, OwnR.mono e hl, below_trans h (below_new _ _)⟩
theorem resL_none2 {w w2 : World} (o : Obj) (h : Below w.heap.size w w2) : ResL none w (.returned (.tuple #[.slice (some ⟨w2.heap.size + 1, 0, none⟩) 0 0, .bool false])) ((w2.alloc o).alloc (.cells #[] 25)) := by
  have e := resL_none (below_trans h (below_new w2 o)) (by rw [size_alloc]; have := h.size; omega)
  rw [size_alloc] at e; exact e
theorem resL_some {s : ByteArray} {ss : List ByteArray} {w wr : World} {b off : Nat} {out : List Dee} {v : Value} (h : RdsRel s ss w b off ss.length out v wr) : ResL (readsB s) w (.returned (.tuple #[v, .bool true])) wr := by
  have e := h.all
  rw [List.drop_length, readAll] at e
  rw [← e]
  obtain ⟨a, cap, rfl, ho, _⟩ := ownR_of Dee.len h.own
  exact ⟨a, cap, rfl, ho, h.below⟩

theorem RdsRel.more {s : ByteArray} {ss : List ByteArray} {w w2 w6 : World} {b off j g6 c6 : Nat} {out : List Dee} {d : Dee} {v : Value} {o1 o2 : Obj} (h : RdsRel s ss w b off j out v w2)
    (hn : readsB s = readAll (ss.drop (j + 1)) (out ++ [d])) (hf : out.length + 1 ≤ 20) (ho : w6.ownsRow w.heap.size 25 5 (.slice (some ⟨g6, 0, none⟩) (out.length + 1) c6) (out.length + 1) (out.flatMap Dee.cs ++ [d].flatMap Dee.cs))
    (hg : ((w2.alloc o1).alloc o2).grownBy w6 v.ownBlock) (ha : v.ownBlock = some g6 ∨ g6 = w2.heap.size + 1 + 1) : RdsRel s ss w b off (j + 1) (out ++ [d]) (.slice (some ⟨g6, 0, none⟩) (out.length + 1) c6) w6 := by
  have hs1 := size_alloc w2 o1
  have hs2 := size_alloc (w2.alloc o1) o2
  have hle := h.below.size
  refine ⟨by rw [List.flatMap_append, List.length_append]; exact ho, hn.symm, ?_, bgrown (below_trans (below_trans h.below (below_new w2 o1)) (below_new _ o2)) (by omega) hg (own_lo h.own), by rw [List.length_append]; exact hf, ?_, ?_⟩
  · have h2 := strs_below (strs_below h.st (below_new w2 o1)) (below_new _ o2)
    intro k u hk
    obtain ⟨b', off', e, hc⟩ := h2 k u hk
    injection e with e; injection e with e1 e2
    subst e1; subst e2
    refine ⟨_, _, rfl, hg.cell hc ?_⟩
    intro q
    exact h.far _ q.symm rfl
  · intro g q
    have q : g6 = g := by simpa [Value.ownBlock] using q
    subst q
    rcases ha with ha | ha
    · exact h.far _ ha
    · have := h.bl; omega
  · have := h.bl; have := hg.size; omega
set_option maxHeartbeats 16000000 in
set_option maxRecDepth 100000 in
theorem sReadDeeds_any (s : ByteArray) (w : World) (hs : s.size ≤ 1048576) :
    Calls Tryz.prog 15 #[.string s] w (ResL (readsB s) w) := by
  obtain ⟨i0, hi, hz0, hz1, hz2⟩ := info_parts info_Deed
  have HI := Lib.hid hi
  have HZ0 := Lib.hid hz0
  have HZ1 := Lib.hid hz1
  have HZ2 := Lib.hid hz2
  clear hi hz0 hz1 hz2
  obtain ⟨W0, hW0⟩ : ∃ W0, w.alloc (.cells #[] 25) = W0 := ⟨_, rfl⟩
  have B0 := Lib.hid (show Below w.heap.size w W0 from by rw [← hW0]; exact below_new _ _)
  have hsz0 : W0.heap.size = w.heap.size + 1 := by rw [← hW0]; exact size_alloc _ _
  have O0 := Lib.hid (show W0.ownsRow w.heap.size 25 5 (.slice (some ⟨w.heap.size, 0, none⟩) 0 0) 0 (([] : List Dee).flatMap Dee.cs) from by
    rw [← hW0]; exact ⟨by simp, .inr ⟨w.heap.size, 0, #[], rfl, Nat.le_refl _, heap_alloc_new _ _, Nat.le_refl _, Nat.zero_le _, by simp, by simp⟩⟩)
  have HZ := Lib.hid hsz0
  clear hsz0
  cases hq : (s.toList == [])
  case true =>
    have h0 : s.toList = [] := by simpa using hq
    have HN := Lib.hid (show ResL (readsB s) w (.returned (.tuple #[.slice (some ⟨w.heap.size, 0, none⟩) 0 0, .bool true])) W0 from by
      rw [readsB, if_pos h0]
      obtain ⟨a, cap, e, ho, _⟩ := ownR_of (xs := ([] : List Dee)) Dee.len O0.out
      injection e with e1 e2 e3
      subst e1
      exact ⟨_, _, rfl, ho, B0.out⟩)
    go_enter Tryz.func15, Tryz.ntmps15
    go_wp2
    exact bodyPost_ret (v := .tuple #[.slice (some ⟨w.heap.size, 0, none⟩) 0 0, .bool true]) (by simp [results, Tryz.results15, go_sem]) rfl HN.out
  have HE := Lib.hid (show readsB s = readAll (splitB1 59 s) [] from if_neg (by simpa using hq))
  go_enter Tryz.func15, Tryz.ntmps15
  go_wp2_with fail
  refine (l1Split_any s 59 _ hs).mono ?_
  rintro e w1 ⟨a, cap, rfl, hst, hnew, hb1⟩
  clear hW0 hq
  have hlen : (splitB1 59 s).length ≤ s.size + 1 := pieceF_len _ _ _ _ _
  have hpos : 0 < (splitB1 59 s).length := List.length_pos_iff.mpr (pieceF_ne _ _ _ _ _)
  have hsmall : ∀ x ∈ splitB1 59 s, x.size ≤ s.size := pieceF_size _ _ _ _ _
  obtain ⟨ss, hss⟩ : ∃ ss, splitB1 59 s = ss := ⟨_, rfl⟩
  rw [hss] at hst hlen hpos hsmall ⊢
  have HSM := Lib.hid hsmall
  obtain ⟨b, off, rfl, hc0⟩ := strs_sat hst 0 hpos
  have HR := Lib.hid (show RdsRel s ss w b off 0 [] (.slice (some ⟨w.heap.size, 0, none⟩) 0 0) w1 from
    ⟨own_below O0.out hb1, by rw [List.drop_zero, HE.out, hss], hst, below_trans B0.out hb1, Nat.zero_le _, fun g hg => by
      have hg : w.heap.size = g := by simpa [Value.ownBlock] using hg
      have := hnew b off rfl; have := HZ.out; omega, lt_of_cell hc0⟩)
  clear hss hst hnew hb1 hc0 hsmall hpos O0 B0 HE
  have HL := Lib.hid hlen
  go_wp2_with fail
  go_loopw [4, 6] (fun v i wr => ∃ (j : Nat) (out : List Dee), j ≤ ss.length ∧ i = .int .i64 j ∧ RdsRel s ss w b off j out v wr) (fun _ i _ => ss.length - (intOf i).toNat)
  case atStart => exact ⟨0, [], Nat.zero_le _, rfl, HR.out⟩
  case round =>
    clear HR
    obtain ⟨j, out, hj, rfl, hr⟩ := hrel
    have HR := Lib.hid hr
    clear hr
    by_cases hlt : j < ss.length
    · obtain ⟨b', off', e', hcj⟩ := strs_sat HR.out.st j hlt
      obtain ⟨rfl, rfl⟩ : b = b' ∧ off = off' := by injection e' with e'; injection e' with e1 e2; exact ⟨e1, e2⟩
      clear e'
      have HSJ := Lib.hid (sat_size HSM.out j)
      have HA := Lib.hid (HR.out.all.symm.trans (readAll_at hlt))
      obtain ⟨av, cv, hv, _, _⟩ := ownR_of Dee.len HR.out.own
      subst hv
      go_wp2_with fail
      refine (sReadDeed_any (sat ss j) _ (by have := HSJ.out; omega)).mono ?_
      rintro e w2 ⟨rfl, hb2⟩
      have HR2 := Lib.hid (HR.out.step hb2)
      clear hb2 HR hcj
      cases ho : readB (sat ss j) with
      | none =>
        rw [ho] at HA
        have HNO := Lib.hid (show readsB s = none from HA.out)
        go_wp2
        exact bodyPost_ret (v := .tuple #[.slice (some ⟨w2.heap.size + 1, 0, none⟩) 0 0, .bool false]) (by simp [results, Tryz.results15, go_sem]) rfl (by rw [HNO.out]; exact resL_none2 _ HR2.out.below)
      | some d =>
        rw [ho] at HA
        have hfew := HR2.out.few
        by_cases h20 : out.length = 20
        · have HNO := Lib.hid (show readsB s = none from HA.out.trans (if_pos h20))
          have hb20 : ((out.length : Int) == 20) = true := by simp; omega
          go_wp2
          exact bodyPost_ret (v := .tuple #[.slice (some ⟨w2.heap.size + 1, 0, none⟩) 0 0, .bool false]) (by simp [results, Tryz.results15, go_sem]) rfl (by rw [HNO.out]; exact resL_none2 _ HR2.out.below)
        have hb20 : ((out.length : Int) == 20) = false := by simp; omega
        have HNX := Lib.hid (show readsB s = readAll (ss.drop (j + 1)) (out ++ [d]) from HA.out.trans (if_neg h20))
        have HOW := Lib.hid (((HR2.out.own.alloc (.cells #[.int .i64 d.kind, .string d.who, .string d.mill, .string d.to, .int .i64 d.n] 25)).alloc (.cells #[.int .i64 d.kind, .string d.who, .string d.mill, .string d.to, .int .i64 d.n] 25)))
        have hle2 : w.heap.size ≤ w2.heap.size := HR2.out.below.size
        have HBL := Lib.hid (own_lo HR2.out.own)
        go_wp2_with (at_builtin; refine wpList_append_lies _ rfl _ _ 31 rfl w.heap.size 25 i0 (.agg #[.int .i64 0, .string ByteArray.empty, .string ByteArray.empty, .string ByteArray.empty, .int .i64 0]) 5 64 Tryz.underlying31 HI.out HZ0.out HZ1.out HZ2.out rfl (by decide) _ _ _ rfl HOW.out ⟨w2.heap.size + 1, 0, none⟩ 1 1 ([d].flatMap Dee.cs) rfl ?c0 ?c1 (flat_one Dee.one _) (by decide) ?c3 ?c4 ?c5 _ rfl ?_)
        case c0 => rfl
        case c1 =>
          intro k u hk
          obtain ⟨b'', off'', e, hc⟩ := lies_new (w2.alloc (.cells #[.int .i64 d.kind, .string d.who, .string d.mill, .string d.to, .int .i64 d.n] 25)) d.cs 25 k u (by simpa using hk)
          rw [size_alloc] at e
          injection e with e; injection e with e1 e2; subst e1; subst e2
          rw [add_plain]; exact hc
        case c3 => unfold maxLen; omega
        case c4 => omega
        case c5 => rw [size_alloc, size_alloc]; omega
        intro g6 c6 w6 hown6 hgrow hat hlt6
        have HR3 := Lib.hid (RdsRel.more (d := d) HR2.out HNX.out (by omega) hown6 hgrow hat)
        clear hown6 hgrow hat hlt6
        go_wp2
        go_roundw
        case rel => exact ⟨j + 1, out ++ [d], by omega, by go_num, HR3.out⟩
        case measure => simp [intOf]; omega
    · obtain rfl : j = ss.length := by omega
      have HN := Lib.hid (resL_some HR.out)
      obtain ⟨av, cv, hv, _, _⟩ := ownR_of Dee.len HR.out.own
      subst hv
      go_wp2
      exact bodyPost_ret (v := .tuple #[.slice av out.length cv, .bool true]) (by simp [results, Tryz.results15, go_sem]) rfl HN.out
end Go.Proofs.YtoabpbdjffonlaaGreatDoor
namespace Go.Proofs.YtoabpbdjffonlaaGreatDoor
open Go.ChangeShapes Go.WideShapes Go.ChangeAt Go.RowKit

theorem bytes_iff' {a b : ByteArray} : a.toList = b.toList ↔ a = b := ⟨fun h => WideShapes.bytes_inj (by rw [ByteArray.toList_eq, ByteArray.toList_eq] at h; exact h), fun h => by rw [h]⟩
open Classical in
set_option maxRecDepth 100000 in
theorem eq_Dee (p q : Dee) (w : World) : (Op.equalIn 10000 25 (.agg #[.int .i64 p.kind, .string p.who, .string p.mill, .string p.to, .int .i64 p.n]) (.agg #[.int .i64 q.kind, .string q.who, .string q.mill, .string q.to, .int .i64 q.n])).run Tryz.prog w = .ok (decide (p = q)) w := by
  have hs : Tryz.prog.stoodInHeld 25 = false := by kernel_rfl
  have hu : Tryz.prog.underlying 25 = some (.struct (Tryz.prog.fieldsOf 25)) := by kernel_rfl
  rw [run_equalIn_agg _ 9999 _ _ _ hu hs]
  simp [Program.fieldsOf, Tryz.underlying25, Op.eqFields, go_sem, bytes_iff']
  obtain ⟨p0, p1, p2, p3, p4⟩ := p
  obtain ⟨q0, q1, q2, q3, q4⟩ := q
  simp only [Dee.mk.injEq]
  by_cases h0 : p0 = q0 <;> by_cases h1 : p1 = q1 <;> by_cases h2 : p2 = q2 <;> by_cases h3 : p3 = q3 <;> by_cases h4 : p4 = q4 <;> simp_all

open Classical in
theorem eq_Dee_t {p q : Dee} (h : p = q) (w : World) : (Op.equalIn 10000 25 (.agg #[.int .i64 p.kind, .string p.who, .string p.mill, .string p.to, .int .i64 p.n]) (.agg #[.int .i64 q.kind, .string q.who, .string q.mill, .string q.to, .int .i64 q.n])).run Tryz.prog w = .ok true w := (eq_Dee p q w).trans (by rw [decide_eq_true h])
open Classical in
theorem eq_Dee_f {p q : Dee} (h : p ≠ q) (w : World) : (Op.equalIn 10000 25 (.agg #[.int .i64 p.kind, .string p.who, .string p.mill, .string p.to, .int .i64 p.n]) (.agg #[.int .i64 q.kind, .string q.who, .string q.mill, .string q.to, .int .i64 q.n])).run Tryz.prog w = .ok false w := (eq_Dee p q w).trans (by rw [decide_eq_false h])
theorem iwords_any (k n : Int) (who mill to : ByteArray) (w : World) (h0 : -9223372036854775808 ≤ n) (h1 : n ≤ 9223372036854775807) (hg : Glob w) :
    Calls Tryz.prog 19 #[.agg #[.int .i64 k, .string who, .string mill, .string to, .int .i64 n]] w (WordsL (wordsP ⟨k, who, mill, to, n⟩) w) := by
  by_cases hk : 1 ≤ k ∧ k ≤ 11
  · rw [wordsP_in (d := ⟨k, who, mill, to, n⟩) hk.1 hk.2]
    rcases kinds hk.1 hk.2 with rfl | rfl | rfl | rfl | rfl | rfl | rfl | rfl | rfl | rfl | rfl
    · exact iwords_1 n who mill to w h0 h1 hg
    · exact iwords_2 n who mill to w h0 h1 hg
    · exact iwords_3 n who mill to w h0 h1 hg
    · exact iwords_4 n who mill to w h0 h1 hg
    · exact iwords_5 n who mill to w h0 h1 hg
    · exact iwords_6 n who mill to w h0 h1 hg
    · exact iwords_7 n who mill to w h0 h1 hg
    · exact iwords_8 n who mill to w h0 h1 hg
    · exact iwords_9 n who mill to w h0 h1 hg
    · exact iwords_10 n who mill to w h0 h1 hg
    · exact iwords_11 n who mill to w h0 h1 hg
  · have hk' : k < 1 ∨ 11 < k := by omega
    rw [wordsP_out (d := ⟨k, who, mill, to, n⟩) hk']
    exact iwords_no hk' n who mill to w
set_option maxHeartbeats 2000000 in
set_option maxRecDepth 100000 in
theorem iDeedOk_any (k n : Int) (who mill to : ByteArray) (w : World) (h1 : who.size ≤ 281474976710656) (h2 : mill.size ≤ 281474976710656) (h3 : to.size ≤ 281474976710656) (hn0 : -9223372036854775808 ≤ n) (hn1 : n ≤ 9223372036854775807) (hg : Glob w) (h8 : 8 ≤ w.heap.size) :
    Calls Tryz.prog 13 #[.agg #[.int .i64 k, .string who, .string mill, .string to, .int .i64 n]] w fun e w' => e = .returned (.bool (deedB ⟨k, who, mill, to, n⟩)) ∧ Below w.heap.size w w' := by
  have HN0 := Lib.hid hn0
  have HN1 := Lib.hid hn1
  have HG := Lib.hid hg
  have H8 := Lib.hid h8
  have HX := Lib.hid (RecAt.new Dee.cs w ⟨k, who, mill, to, n⟩ 25)
  have B0 := Lib.hid (below_new w (.cells #[.int .i64 k, .string who, .string mill, .string to, .int .i64 n] 25))
  obtain ⟨W, hW⟩ : ∃ W, w.alloc (.cells #[.int .i64 k, .string who, .string mill, .string to, .int .i64 n] 25) = W := ⟨_, rfl⟩
  rw [show w.alloc (.cells (Dee.cs ⟨k, who, mill, to, n⟩).toArray 25) = W from hW] at HX
  rw [hW] at B0
  have HSZ := Lib.hid (wordsP_size (d := ⟨k, who, mill, to, n⟩) (m := 281474976710656) (by omega) hn0 hn1 h1 h2 h3)
  obtain ⟨x0, rest, hxs⟩ := wordsP_cons ⟨k, who, mill, to, n⟩
  have HRY := Lib.hid (fun h => readP_right (d := ⟨k, who, mill, to, n⟩) h)
  have HRN := Lib.hid (fun h r e => readP_wrong (d := ⟨k, who, mill, to, n⟩) (r := r) h e)
  rw [hxs] at HSZ HRY HRN
  have HXS := Lib.hid hxs
  clear hn0 hn1 hg h8 h1 h2 h3 hxs
  have c0 := HX.out 0 _ rfl
  have c1 := HX.out 1 _ rfl
  have c2 := HX.out 2 _ rfl
  have c3 := HX.out 3 _ rfl
  have c4 := HX.out 4 _ rfl
  go_enter Tryz.func13, Tryz.ntmps13
  go_wp2_with fail
  refine (iwords_any k n who mill to _ HN0.out HN1.out (HG.out.below B0.out)).mono ?_
  rintro e w1 ⟨g, rfl, hgl, hcells, hb1⟩
  rw [HXS.out] at hcells ⊢
  have HC := Lib.hid hcells
  have HGL := Lib.hid hgl
  have B1 := Lib.hid (below_trans B0.out hb1)
  have HX1 := Lib.hid (HX.out.below hb1)
  clear hcells hgl hb1 c0 c1 c2 c3 c4
  go_wp2_with fail
  refine (deedIn_any (b := g) (off := 0) (c := (x0 :: rest).length) (x0 := x0) (rest := rest) HC.out HGL.out (Nat.le_refl _) (by have := HSZ.out.2; simp at this; omega) HSZ.out.1 (HG.out.below B1.out) (Nat.le_trans H8.out B1.out.size)).mono ?_
  rintro e w2 ⟨rfl, hb2⟩
  have B2 := Lib.hid (below_trans B1.out hb2)
  have HX2 := Lib.hid (HX1.out.below hb2)
  clear hb2 hW
  cases ho : readW (x0 :: rest) (placeV wordsS x0 + 1) with
  | none =>
    have HN := Lib.hid (show deedB ⟨k, who, mill, to, n⟩ = false by
      cases q : deedB ⟨k, who, mill, to, n⟩ with
      | false => rfl
      | true =>
        have e := HRY.out q
        rw [show sat (x0 :: rest) 0 = x0 from rfl, ho] at e; cases e)
    have B3 := Lib.hid (below_trans B2.out (below_new w2 (.cells #[.int .i64 0, .string ByteArray.empty, .string ByteArray.empty, .string ByteArray.empty, .int .i64 0] 25)))
    clear ho
    simp only [Option.getD_none, Option.isSome_none, zeroD]
    go_wp2
    go_ret
    exact ⟨by rw [HN.out]; rfl, B3.out⟩
  | some r =>
    have B3 := Lib.hid (below_trans B2.out (below_new w2 (.cells #[.int .i64 r.kind, .string r.who, .string r.mill, .string r.to, .int .i64 r.n] 25)))
    have hlt := lt_of_cell (HX2.out 0 _ rfl)
    have c0 := HX2.out 0 _ rfl
    have c1 := HX2.out 1 _ rfl
    have c2 := HX2.out 2 _ rfl
    have c3 := HX2.out 3 _ rfl
    have c4 := HX2.out 4 _ rfl
    by_cases hr : r = ⟨k, who, mill, to, n⟩
    · have HN := Lib.hid (show deedB ⟨k, who, mill, to, n⟩ = true from hr ▸ readW_right ho)
      have heq := eq_Dee_t hr
      simp only at heq
      clear ho hr
      simp only [Option.getD_some, Option.isSome_some]
      go_wp2
      go_ret
      exact ⟨by rw [HN.out]; rfl, B3.out⟩
    · have HN := Lib.hid (show deedB ⟨k, who, mill, to, n⟩ = false by
        cases q : deedB ⟨k, who, mill, to, n⟩ with
        | false => rfl
        | true =>
          have e := HRY.out q
          rw [show sat (x0 :: rest) 0 = x0 from rfl, ho] at e
          exact absurd (Option.some.inj e) hr)
      have heq := eq_Dee_f hr
      simp only at heq
      clear ho hr
      simp only [Option.getD_some, Option.isSome_some]
      go_wp2
      go_ret
      exact ⟨by rw [HN.out]; rfl, B3.out⟩
end Go.Proofs.YtoabpbdjffonlaaGreatDoor
namespace Go.Proofs.YtoabpbdjffonlaaGreatDoor
open Go.ChangeShapes Go.WideShapes Go.ChangeAt Go.RowKit

theorem index_one (x : ByteArray) (c : UInt8) : Lib.index x.data.toList [c] = Lib.indexByte x.data.toList c := by
  have := Lib.one x ⟨#[c]⟩ rfl
  have e : (((((⟨#[c]⟩ : ByteArray)[0]'(Nat.lt_succ_self 0)).toNat : Nat) : Int)).toNat.toUInt8 = c := by
    show (((c.toNat : Nat) : Int)).toNat.toUInt8 = c
    simp
  rw [e] at this; exact this
set_option maxHeartbeats 1000000 in
set_option maxRecDepth 100000 in
/-- strings.SplitN at one byte. -/
theorem splitN_any (s : ByteArray) (c : UInt8) (n : Nat) (w : World) (hs : s.size < 4294967281) (hn : 1 ≤ n) (hn63 : n ≤ 9223372036854775807) :
    Calls Tryz.prog 25 #[.string s, .string ⟨#[c]⟩, .int .i64 n] w fun e w' =>
      e = .returned (.slice (some ⟨w.heap.size, 0, none⟩) (Lib.splitB ⟨#[c]⟩ 0 (min n (s.size + 1) - 1) s).length (min n (s.size + 1))) ∧ w' = w.alloc (.cells (Lib.cellsOf (Lib.splitB ⟨#[c]⟩ 0 (min n (s.size + 1) - 1) s) (min n (s.size + 1))) 9) := by
  have L := laySplitN
  have hI := fun (x : ByteArray) (cs : Array Value) (_ : x.size ≤ s.size) => (Any.strings_Index_one (ρ := laySplitN_ren) { L with } x c (w.alloc (.cells cs (laySplitN_ren.t 9)))).mono (R' := fun e w' => e = .returned (.int .i64 (Lib.index x.data.toList [c])) ∧ w' = w.alloc (.cells cs (laySplitN_ren.t 9))) fun e w' h => ⟨by rw [h.1, index_one], h.2⟩
  have hC := (Any.strings_Count_one (ρ := laySplitN_ren) { L with } s c w).mono (R' := fun e w' => e = .returned (.int .i64 ((Lib.count s.data.toList [c] : Nat) : Int)) ∧ w' = w) fun e w' h => ⟨by rw [h.1, Lib.count_one]; rfl, h.2⟩
  have h := Any.strings_genSplit_core (ρ := laySplitN_ren) { L with } L.i9 s ⟨#[c]⟩ 0 (n : Int) (min n (s.size + 1)) w hs (Nat.le_refl _) (Nat.zero_le _) hI hC (by omega) (by omega) (by rw [if_neg (by omega)]; omega)
  have H := Lib.hid h
  clear h hI hC
  go_enter Tryz.func25, Tryz.ntmps25
  go_wp2_with fail
  refine H.out.mono ?_
  rintro e w' ⟨rfl, hw⟩
  rw [hw]
  go_wp2
  go_ret
  exact ⟨rfl, rfl⟩
theorem split_cells {w : World} {p : List ByteArray} {N : Nat} : ∀ k u, p[k]? = some u → (w.alloc (.cells (Lib.cellsOf p N) 9)).cell? ⟨w.heap.size, 0 + k, none⟩ = some (.string u) := by
  intro k u hk
  rw [Nat.zero_add, World.cell?_alloc_mark]
  unfold Lib.cellsOf
  have hk' : k < p.length := by
    rcases Nat.lt_or_ge k p.length with h | h
    · exact h
    · rw [List.getElem?_eq_none h] at hk; cases hk
  rw [List.getElem?_toArray, List.getElem?_append_left (by simpa using hk'), List.getElem?_map, hk]; rfl

set_option maxHeartbeats 1000000 in
set_option maxRecDepth 100000 in
theorem iShowDeed_any (k n : Int) (who mill to : ByteArray) (w : World) (h1 : who.size ≤ 1048576) (h2 : mill.size ≤ 1048576) (h3 : to.size ≤ 1048576) (hn0 : -9223372036854775808 ≤ n) (hn1 : n ≤ 9223372036854775807) (hg : Glob w) (h8 : 8 ≤ w.heap.size) :
    Calls Tryz.prog 6 #[.agg #[.int .i64 k, .string who, .string mill, .string to, .int .i64 n]] w fun e w' => e = .returned (.string (showB ⟨k, who, mill, to, n⟩)) ∧ Below w.heap.size w w' := by
  have HN0 := Lib.hid hn0
  have HN1 := Lib.hid hn1
  have HG := Lib.hid hg
  have H8 := Lib.hid h8
  have HS1 := Lib.hid h1
  have HS2 := Lib.hid h2
  have HS3 := Lib.hid h3
  have HX := Lib.hid (RecAt.new Dee.cs w ⟨k, who, mill, to, n⟩ 25)
  have B0 := Lib.hid (below_new w (.cells #[.int .i64 k, .string who, .string mill, .string to, .int .i64 n] 25))
  obtain ⟨W, hW⟩ : ∃ W, w.alloc (.cells #[.int .i64 k, .string who, .string mill, .string to, .int .i64 n] 25) = W := ⟨_, rfl⟩
  rw [show w.alloc (.cells (Dee.cs ⟨k, who, mill, to, n⟩).toArray 25) = W from hW] at HX
  rw [hW] at B0
  have HSZ := Lib.hid (wordsP_size (d := ⟨k, who, mill, to, n⟩) (m := 1048576) (by omega) hn0 hn1 h1 h2 h3)
  clear hn0 hn1 hg h8 h1 h2 h3
  have c0 := HX.out 0 _ rfl
  have c1 := HX.out 1 _ rfl
  have c2 := HX.out 2 _ rfl
  have c3 := HX.out 3 _ rfl
  have c4 := HX.out 4 _ rfl
  go_enter Tryz.func6, Tryz.ntmps6
  go_wp2_with fail
  refine (iDeedOk_any k n who mill to _ (by have := HS1.out; omega) (by have := HS2.out; omega) (by have := HS3.out; omega) HN0.out HN1.out (HG.out.below B0.out) (Nat.le_trans H8.out B0.out.size)).mono ?_
  rintro e w1 ⟨rfl, hb1⟩
  have B1 := Lib.hid (below_trans B0.out hb1)
  have HX1 := Lib.hid (HX.out.below hb1)
  clear hb1 c0 c1 c2 c3 c4
  cases hok : deedB ⟨k, who, mill, to, n⟩
  · have HN := Lib.hid (show showB ⟨k, who, mill, to, n⟩ = ByteArray.empty by rw [showB, hok]; rfl)
    clear hok
    go_wp2
    go_ret
    exact ⟨by rw [HN.out]; rfl, B1.out⟩
  have HJ := Lib.hid (join_show hok)
  clear hok hW
  obtain ⟨xs, hxs⟩ : ∃ xs, wordsP ⟨k, who, mill, to, n⟩ = xs := ⟨_, rfl⟩
  rw [hxs] at HSZ HJ
  have HXS := Lib.hid hxs
  clear hxs
  have c0 := HX1.out 0 _ rfl
  have c1 := HX1.out 1 _ rfl
  have c2 := HX1.out 2 _ rfl
  have c3 := HX1.out 3 _ rfl
  have c4 := HX1.out 4 _ rfl
  go_wp2_with fail
  refine (iwords_any k n who mill to _ HN0.out HN1.out (HG.out.below B1.out)).mono ?_
  rintro e w2 ⟨g, rfl, hgl, hcells, hb2⟩
  rw [HXS.out] at hcells ⊢
  have HC := Lib.hid hcells
  have HGL := Lib.hid hgl
  have B2 := Lib.hid (below_trans B1.out hb2)
  clear hcells hgl hb2 c0 c1 c2 c3 c4
  go_wp2_with fail
  refine (Any.strings_Join layJoin extraJoin g 0 xs.length xs ⟨#[32]⟩ _ HC.out HGL.out (by have := HSZ.out.2; omega) (Nat.le_refl _) (by
    rw [show (⟨#[32]⟩ : ByteArray).data.toList = [32] from rfl, joinT_join]
    have h1 := joinL_len 32 1048576 (xs.map (·.data.toList)) (fun x hx => by obtain ⟨y, hy, rfl⟩ := List.mem_map.mp hx; exact HSZ.out.1 y hy)
    have h2 := HSZ.out.2
    rw [List.length_map] at h1
    have h3 : (1048576 + 1) * xs.length ≤ (1048576 + 1) * 5 := Nat.mul_le_mul_left _ h2
    omega)).mono ?_
  rintro e w3 ⟨rfl, hb3⟩
  have B3 := Lib.hid (below_trans B2.out hb3)
  clear hb3
  rw [show (⟨#[32]⟩ : ByteArray).data.toList = [32] from rfl, HJ.out]
  go_wp2
  go_ret
  exact ⟨rfl, B3.out⟩

set_option maxHeartbeats 1000000 in
set_option maxRecDepth 100000 in
theorem iReadDeed_any (s : ByteArray) (w : World) (hs : s.size ≤ 1048576) (hg : Glob w) (h8 : 8 ≤ w.heap.size) :
    Calls Tryz.prog 8 #[.string s] w (ReadD s w) := by
  have HS := Lib.hid hs
  have HG := Lib.hid hg
  have H8 := Lib.hid h8
  clear hs hg h8
  have B0 := Lib.hid (below_new w (.cells #[.int .i64 0, .string ⟨#[]⟩, .string ⟨#[]⟩, .string ⟨#[]⟩, .int .i64 0] 25))
  have Z0 := Lib.hid (ZeroAt.new w)
  obtain ⟨W0, hW0⟩ : ∃ W0, w.alloc zeroO = W0 := ⟨_, rfl⟩
  rw [hW0] at Z0
  rw [show w.alloc (.cells #[.int .i64 0, .string ⟨#[]⟩, .string ⟨#[]⟩, .string ⟨#[]⟩, .int .i64 0] 25) = W0 from hW0] at B0
  have HW0 := Lib.hid hW0
  clear hW0
  have HRD := Lib.hid (read_six s)
  have hlen := Lib.splitB_length_le ⟨#[32]⟩ 0 (min 6 (s.size + 1) - 1) s
  have hsz : ∀ x ∈ Lib.splitB ⟨#[32]⟩ 0 (min 6 (s.size + 1) - 1) s, x.size ≤ 281474976710656 := by
    have hh := HS.out
    intro x hx
    have := split_size (c := 32) s _ x hx
    omega
  have hne : Lib.splitB ⟨#[32]⟩ 0 (min 6 (s.size + 1) - 1) s ≠ [] := split_ne _ _ _
  go_enter Tryz.func8, Tryz.ntmps8
  go_wp2_with fail
  refine (splitN_any s 32 6 _ (by have := HS.out; omega) (by omega) (by omega)).mono ?_
  rintro e w1 ⟨rfl, hw1⟩
  rw [show w.alloc (.cells #[.int .i64 0, .string ⟨#[]⟩, .string ⟨#[]⟩, .string ⟨#[]⟩, .int .i64 0] 25) = W0 from HW0.out] at hw1 ⊢
  obtain ⟨p, hp⟩ : ∃ p, Lib.splitB ⟨#[32]⟩ 0 (min 6 (s.size + 1) - 1) s = p := ⟨_, rfl⟩
  rw [hp] at hw1 HRD hlen hsz hne ⊢
  clear hp
  obtain ⟨x0, rest, rfl⟩ : ∃ x0 rest, p = x0 :: rest := by
    cases p with
    | nil => exact absurd rfl hne
    | cons x r => exact ⟨x, r, rfl⟩
  have HC := Lib.hid (split_cells (w := W0) (p := x0 :: rest) (N := min 6 (s.size + 1)))
  rw [← hw1] at HC
  have hb1 : Below W0.heap.size W0 w1 := by rw [hw1]; exact below_new _ _
  have hgl : W0.heap.size < w1.heap.size := by rw [hw1, size_alloc]; exact Nat.lt_succ_self _
  have B1 := Lib.hid (below_trans B0.out hb1)
  have Z1 := Lib.hid (Z0.out.step hb1)
  have HGL := Lib.hid hgl
  have HSZ := Lib.hid hsz
  have HLN := Lib.hid hlen
  clear hw1 hb1 hgl hsz hlen hne
  go_wp2_with fail
  refine (deedIn_any (b := W0.heap.size) (off := 0) (c := min 6 (s.size + 1)) (x0 := x0) (rest := rest) HC.out HGL.out (by have := HLN.out; simp at this; omega) (by have := HLN.out; simp at this; omega) HSZ.out (HG.out.below B1.out) (Nat.le_trans H8.out B1.out.size)).mono ?_
  rintro e w2 ⟨rfl, hb2⟩
  rw [show readW (x0 :: rest) (placeV wordsS x0 + 1) = readB s from HRD.out]
  have B2 := Lib.hid (below_trans B1.out hb2)
  have Z2 := Lib.hid (Z1.out.step hb2)
  clear hb2
  have r0 := Z2.out.c0
  have r1 := Z2.out.c1
  have r2 := Z2.out.c2
  have r3 := Z2.out.c3
  have r4 := Z2.out.c4
  have rf := Z2.out.fz
  obtain ⟨o, ho⟩ : ∃ o, readB s = o := ⟨_, rfl⟩
  rw [ho]
  have HO := Lib.hid ho
  clear ho
  go_wp2
  exact bodyPost_ret (v := .tuple #[.agg #[.int .i64 (o.getD (zeroD 0)).kind, .string (o.getD (zeroD 0)).who, .string (o.getD (zeroD 0)).mill, .string (o.getD (zeroD 0)).to, .int .i64 (o.getD (zeroD 0)).n], .bool o.isSome]) (by simp [results, Tryz.results8, go_sem, r0, r1, r2, r3, r4]) rfl ⟨by rw [HO.out], below_set5 B2.out (Nat.le_refl _) _ _ _ _ _⟩
end Go.Proofs.YtoabpbdjffonlaaGreatDoor
namespace Go.Proofs.YtoabpbdjffonlaaGreatDoor
open Go.ChangeShapes Go.WideShapes Go.ChangeAt Go.RowKit

theorem resL_nil {w w' : World} (h : Below w.heap.size w w') : ResL none w (.returned (.tuple #[.slice none 0 0, .bool false])) w' :=
  ⟨none, 0, rfl, ⟨fun k u hk => by simp at hk, .inl rfl⟩, h⟩
theorem resL_empty {w w' : World} (h : Below w.heap.size w w') : ResL (some []) w (.returned (.tuple #[.slice none 0 0, .bool true])) w' :=
  ⟨none, 0, rfl, ⟨fun k u hk => by simp at hk, .inl rfl⟩, h⟩
set_option maxHeartbeats 16000000 in
set_option maxRecDepth 100000 in
theorem iReadDeeds_any (s : ByteArray) (w : World) (hs : s.size ≤ 1048576) (hg : Glob w) (h8 : 8 ≤ w.heap.size) :
    Calls Tryz.prog 10 #[.string s] w (ResL (readsB s) w) := by
  obtain ⟨i0, hi, hz0, hz1, hz2⟩ := info_parts info_Deed
  have HI := Lib.hid hi
  have HZ0 := Lib.hid hz0
  have HZ1 := Lib.hid hz1
  have HZ2 := Lib.hid hz2
  have HS := Lib.hid hs
  have HG := Lib.hid hg
  have H8 := Lib.hid h8
  clear hi hz0 hz1 hz2 hs hg h8
  cases hq : (s.toList == [])
  case true =>
    have h0 : s.toList = [] := by simpa using hq
    have HN := Lib.hid (show readsB s = some [] from by rw [readsB, if_pos h0])
    go_enter Tryz.func10, Tryz.ntmps10
    go_wp2
    go_ret2
    rw [HN.out]
    exact resL_empty (Below.refl _ _)
  have HE := Lib.hid (reads_twenty s (by simpa using hq))
  have hlen := Lib.splitB_length_le ⟨#[59]⟩ 0 (min 21 (s.size + 1) - 1) s
  have hsz := split_size (c := 59) s (min 21 (s.size + 1) - 1)
  have hne : Lib.splitB ⟨#[59]⟩ 0 (min 21 (s.size + 1) - 1) s ≠ [] := split_ne _ _ _
  go_enter Tryz.func10, Tryz.ntmps10
  go_wp2_with fail
  refine (splitN_any s 59 21 _ (by have := HS.out; omega) (by omega) (by omega)).mono ?_
  rintro e w1 ⟨rfl, hw1⟩
  obtain ⟨ss, hp⟩ : ∃ p, Lib.splitB ⟨#[59]⟩ 0 (min 21 (s.size + 1) - 1) s = p := ⟨_, rfl⟩
  rw [hp] at hw1 HE hlen hsz hne ⊢
  have hls : ss.length ≤ 21 := by omega
  have hst : Strs w1 (some ⟨w.heap.size, 0, none⟩) ss := by
    intro k u hk
    rw [List.getElem?_map] at hk
    obtain ⟨x, hx, rfl⟩ := Option.map_eq_some_iff.mp hk
    exact ⟨_, _, rfl, by rw [hw1]; exact split_cells k x hx⟩
  have hb1 : Below w.heap.size w w1 := by rw [hw1]; exact below_new _ _
  have hgl : w.heap.size < w1.heap.size := by rw [hw1, size_alloc]; exact Nat.lt_succ_self _
  have HST := Lib.hid hst
  have B1 := Lib.hid hb1
  have HGL := Lib.hid hgl
  have HSM := Lib.hid hsz
  obtain ⟨N, hN⟩ : ∃ N, min 21 (s.size + 1) = N := ⟨_, rfl⟩
  rw [hN]
  clear hp hw1 hst hb1 hgl hsz hne hq hlen hN
  by_cases h20 : 20 < ss.length
  · have HN := Lib.hid (show readsB s = none from HE.out.trans (if_pos h20))
    go_wp2
    go_ret2
    rw [HN.out]
    exact resL_nil B1.out
  have HE2 := Lib.hid (show readsB s = readAll ss [] from HE.out.trans (if_neg h20))
  have hl20 : ss.length ≤ 20 := by omega
  have HR := Lib.hid (show RdsRel s ss w w.heap.size 0 0 [] (.slice none 0 0) w1 from
    ⟨⟨by simp, .inl ⟨rfl, rfl⟩⟩, by rw [List.drop_zero, HE2.out], HST.out, B1.out, Nat.zero_le _, fun g hg => by simp [Value.ownBlock] at hg, HGL.out⟩)
  clear HE HST h20 hls
  go_wp2_with fail
  go_loopw [5, 19] (fun v i wr => ∃ (j : Nat) (out : List Dee), j ≤ ss.length ∧ out.length = j ∧ i = .int .i64 j ∧ RdsRel s ss w w.heap.size 0 j out v wr) (fun _ i _ => ss.length - (intOf i).toNat)
  case atStart => exact ⟨0, [], Nat.zero_le _, rfl, rfl, HR.out⟩
  case round =>
    clear HR
    obtain ⟨j, out, hj, hoj, rfl, hr⟩ := hrel
    have HOJ := Lib.hid hoj
    have HR := Lib.hid hr
    clear hr hoj
    by_cases hlt : j < ss.length
    · obtain ⟨b', off', e', hcj⟩ := strs_sat HR.out.st j hlt
      obtain ⟨rfl, rfl⟩ : w.heap.size = b' ∧ 0 = off' := by injection e' with e'; injection e' with e1 e2; exact ⟨e1, e2⟩
      clear e'
      have HCJ := Lib.hid hcj
      have hcj' := HCJ.out
      rw [Nat.zero_add] at hcj'
      have HSJ := Lib.hid (sat_size HSM.out j)
      have HA := Lib.hid (HR.out.all.symm.trans (readAll_at hlt))
      obtain ⟨av, cv, hv, _, _⟩ := ownR_of Dee.len HR.out.own
      subst hv
      go_wp2_with fail
      refine (iReadDeed_any (sat ss j) _ (by have := HSJ.out; have := HS.out; omega) (HG.out.below HR.out.below) (Nat.le_trans H8.out HR.out.below.size)).mono ?_
      rintro e w2 ⟨rfl, hb2⟩
      have HR2 := Lib.hid (HR.out.step hb2)
      clear hb2 HR hcj hcj'
      cases ho : readB (sat ss j) with
      | none =>
        rw [ho] at HA
        have HNO := Lib.hid (show readsB s = none from HA.out)
        simp only [Option.getD_none, Option.isSome_none, zeroD]
        go_wp2
        go_ret2
        rw [HNO.out]
        exact resL_nil (below_trans HR2.out.below (below_new _ _))
      | some d =>
        rw [ho] at HA
        have hfew := HR2.out.few
        have hol := HOJ.out
        have HNX := Lib.hid (show readsB s = readAll (ss.drop (j + 1)) (out ++ [d]) from HA.out.trans (if_neg (by omega)))
        have HOW := Lib.hid (((HR2.out.own.alloc (.cells #[.int .i64 d.kind, .string d.who, .string d.mill, .string d.to, .int .i64 d.n] 25)).alloc (.cells #[.int .i64 d.kind, .string d.who, .string d.mill, .string d.to, .int .i64 d.n] 25)))
        have hle2 : w.heap.size ≤ w2.heap.size := HR2.out.below.size
        have HBL := Lib.hid (own_lo HR2.out.own)
        simp only [Option.getD_some, Option.isSome_some]
        clear hol
        go_wp2_with (at_builtin; refine wpList_append_lies _ rfl _ _ 31 rfl w.heap.size 25 i0 (.agg #[.int .i64 0, .string ByteArray.empty, .string ByteArray.empty, .string ByteArray.empty, .int .i64 0]) 5 64 Tryz.underlying31 HI.out HZ0.out HZ1.out HZ2.out rfl (by decide) _ _ _ rfl HOW.out ⟨w2.heap.size + 1, 0, none⟩ 1 1 ([d].flatMap Dee.cs) rfl ?c0 ?c1 (flat_one Dee.one _) (by decide) ?c3 ?c4 ?c5 _ rfl ?_)
        case c0 => rfl
        case c1 =>
          intro k u hk
          simpa [Dee.cs] using hk
        case c3 => exact Nat.le_of_lt (by unfold maxLen; omega)
        case c4 => omega
        case c5 => omega
        intro g6 c6 w6 hown6 hgrow hat hlt6
        have HR3 := Lib.hid (RdsRel.more (d := d) HR2.out HNX.out (by have := HOJ.out; omega) hown6 hgrow hat)
        have HO3 := Lib.hid (show (out ++ [d]).length = j + 1 by rw [List.length_append, HOJ.out]; rfl)
        clear hown6 hgrow hat hlt6
        go_wp2
        go_roundw
        case rel => exact ⟨j + 1, out ++ [d], by omega, HO3.out, by go_num, HR3.out⟩
        case measure => simp [intOf]; omega
    · obtain rfl : j = ss.length := by omega
      have HN := Lib.hid (resL_some HR.out)
      obtain ⟨av, cv, hv, _, _⟩ := ownR_of Dee.len HR.out.own
      subst hv
      go_wp2
      go_ret2
      exact HN.out
end Go.Proofs.YtoabpbdjffonlaaGreatDoor
namespace Go.Proofs.YtoabpbdjffonlaaGreatDoor
open Go.ChangeShapes Go.WideShapes Go.ChangeAt Go.RowKit

set_option maxHeartbeats 4000000 in
set_option maxRecDepth 100000 in
theorem likeDeeds_same {w : World} {a a' : Option Addr} {ps : List Dee} (cap cap' : Nat) (h : Recs Dee.cs w a ps) (h' : Recs Dee.cs w a' ps) (hl : ps.length ≤ 1048576) :
    Calls Tryz.prog 16 #[.slice a ps.length cap, .slice a' ps.length cap'] w fun e w' => e = .returned (.bool true) ∧ Below w.heap.size w w' := by
  have H := Lib.hid h
  have H' := Lib.hid h'
  clear h h'
  go_enter Tryz.func16, Tryz.ntmps16
  go_wp2
  go_loopw [5] (fun i w' => ∃ (k n : Nat), k ≤ ps.length ∧ i = .int .i64 k ∧ w' = w.drewN n) (fun i _ => ps.length - (intOf i).toNat)
  case atStart => exact ⟨0, 0, Nat.zero_le _, rfl, rfl⟩
  case round =>
    obtain ⟨k, n, hk, rfl, rfl⟩ := hrel
    by_cases hlt : k < ps.length
    · obtain ⟨b, off, rfl, _, hc, hc1, hc2, hc3, hc4⟩ := Dee.at H.out k hlt
      obtain ⟨b', off', rfl, _, hc', hc1', hc2', hc3', hc4'⟩ := Dee.at H'.out k hlt
      go_wp2
      go_quiet (fail)
      go_wp2
      go_roundw
      case rel => exact ⟨k + 1, _, by omega, by go_num, rfl⟩
      case measure => simp [intOf]; omega
    · go_wp2
      go_ret
      exact ⟨rfl, below_draws (Below.refl _ _) n⟩
end Go.Proofs.YtoabpbdjffonlaaGreatDoor
namespace Go.Proofs.YtoabpbdjffonlaaGreatDoor
open Go.Lib

theorem joinT_snoc (b : UInt8) (y : List UInt8) : ∀ xs : List (List UInt8), joinT b (xs ++ [y]) = if xs = [] then y else joinT b xs ++ b :: y
  | [] => rfl
  | [x] => by rw [if_neg (by simp)]; rfl
  | x :: z :: r => by
    have e := joinT_snoc b y (z :: r)
    rw [if_neg (by simp)] at e
    rw [if_neg (by simp), List.cons_append, List.cons_append, joinT, ← List.cons_append, e, joinT]; simp
/-- The law's text of a list of deeds, up to one of them. -/
def textL (ds : List Dee) : Nat → ByteArray
  | 0 => ByteArray.empty
  | j + 1 => (if 0 < j then textL ds j ++ ⟨#[59]⟩ else textL ds j) ++ showB (ds.getD j (zeroD 0))
theorem textL_zero (ds : List Dee) : textL ds 0 = ByteArray.empty := rfl
theorem textL_first (ds : List Dee) : textL ds 1 = ByteArray.empty ++ showB (ds.getD 0 (zeroD 0)) := rfl
theorem textL_more (ds : List Dee) {j : Nat} (h : 0 < j) : textL ds (j + 1) = textL ds j ++ ⟨#[59]⟩ ++ showB (ds.getD j (zeroD 0)) := by rw [textL, if_pos h]
theorem textL_list (ds : List Dee) : ∀ j, j ≤ ds.length → (textL ds j).data.toList = joinT 59 ((ds.take j).map fun d => (showB d).data.toList)
  | 0, _ => rfl
  | j + 1, h => by
    have ih := textL_list ds j (by omega)
    have hg : ds.getD j (zeroD 0) = ds[j] := by rw [List.getD_eq_getElem?_getD, List.getElem?_eq_getElem (by omega)]; rfl
    have ht : ds.take (j + 1) = ds.take j ++ [ds[j]] := by rw [List.take_add_one, List.getElem?_eq_getElem (by omega)]; rfl
    rw [ht, List.map_append, List.map_cons, List.map_nil, joinT_snoc]
    by_cases h0 : 0 < j
    · rw [textL_more ds h0, ba_app, ba_app, ih, hg, if_neg (fun q => by have := congrArg List.length q; rw [List.length_map, List.length_take, List.length_nil] at this; omega)]
      simp
    · obtain rfl : j = 0 := by omega
      rw [textL_first, ba_app, hg]; rfl
theorem reads_parts {u : ByteArray} {ds : List Dee} (h : readsB u = some ds) : textL ds ds.length = u ∧ ∀ d ∈ ds, deedB d = true := by
  rw [readsB] at h
  by_cases hu : u.toList = []
  · rw [if_pos hu] at h
    have := (Option.some.inj h).symm
    subst this
    refine ⟨ba_ext ?_, by simp⟩
    rw [ByteArray.toList_eq] at hu
    rw [hu]; rfl
  · rw [if_neg hu] at h
    obtain ⟨ds', e, hm, hok⟩ := readAll_some h
    have e : ds = ds' := by simpa using e
    subst e
    refine ⟨ba_ext ?_, hok⟩
    rw [textL_list ds _ (Nat.le_refl _), List.take_length]
    have hj := join_split 59 u
    have e59 : (((59 : UInt8).toNat : Nat) : Int) = 59 := rfl
    rw [e59, ← hm, List.map_map] at hj
    exact hj
theorem reads_right {u : ByteArray} : ∀ d ∈ (readsB u).getD [], deedB d = true := by
  cases h : readsB u with
  | none => simp
  | some ds => exact (reads_parts h).2
theorem read_empty : readB ByteArray.empty = none := by decide +kernel
theorem show_full {d : Dee} (h : deedB d = true) : showB d ≠ ByteArray.empty := by
  intro e
  have := read_show h
  rw [e, read_empty] at this; cases this
theorem right_small {d : Dee} (h : deedB d = true) : d.who.size ≤ 6 ∧ d.mill.size ≤ 6 ∧ d.to.size ≤ 6 ∧ -9223372036854775808 ≤ d.n ∧ d.n ≤ 9223372036854775807 := by
  have h1 := field_size h
  have h2 := deed_num h
  exact ⟨h1.1, h1.2.1, h1.2.2.1, by omega, by omega⟩
theorem sized_right {ds : List Dee} (h : ∀ d ∈ ds, deedB d = true) (j : Nat) (hj : j < ds.length) : ds.getD j (zeroD 0) = ds[j] ∧ deedB ds[j] = true :=
  ⟨by rw [List.getD_eq_getElem?_getD, List.getElem?_eq_getElem hj]; rfl, h _ (List.getElem_mem hj)⟩
theorem show_fifty (d : Dee) : (showB d).size ≤ 50 := by
  by_cases h : deedB d = true
  · exact show_len h
  · rw [showB, if_neg h]; exact Nat.zero_le _
theorem textL_size (ds : List Dee) : ∀ j, (textL ds j).size ≤ 51 * j
  | 0 => Nat.zero_le _
  | j + 1 => by
    have ih := textL_size ds j
    have hs := show_fifty (ds.getD j (zeroD 0))
    have h1 : (⟨#[59]⟩ : ByteArray).size = 1 := rfl
    by_cases h0 : 0 < j
    · rw [textL_more ds h0, ByteArray.size_append, ByteArray.size_append, h1]; omega
    · obtain rfl : j = 0 := by omega
      have h2 : ByteArray.empty.size = 0 := rfl
      rw [textL_first, ByteArray.size_append, h2]; omega
end Go.Proofs.YtoabpbdjffonlaaGreatDoor
namespace Go.Proofs.YtoabpbdjffonlaaGreatDoor
open Go.ChangeShapes Go.WideShapes Go.ChangeAt Go.RowKit

set_option maxRecDepth 100000 in
theorem laidOut : laidOutB Tryz.prog = true := by kernel_rfl
set_option maxRecDepth 100000 in
theorem ownKnobNone : ownKnob Tryz.prog.godebug = none := by kernel_rfl

end Go.Proofs.YtoabpbdjffonlaaGreatDoor
namespace Go.Proofs.YtoabpbdjffonlaaGreatDoor
open Go.ChangeShapes Go.WideShapes Go.ChangeAt Go.RowKit

theorem starred : "*" ++ "errors.errorString" = "*errors.errorString" := by decide
theorem rowErr (u : TypeId) (h : Tryz.prog.typeName? 3 u = some "*errors.errorString") : u = 155 :=
  typeName_ptr_named (nm := "errors.errorString") (by rw [starred]; kernel_rfl) (by kernel_rfl) (by decide) u (by rw [starred]; exact h)
theorem gPow : Tryz.prog.globalNamed "internal/strconv.uint64pow10" = some 1 := by kernel_rfl
theorem gPowT : (Tryz.prog.globals[1]?).map (·.type) = some 130 := by kernel_rfl
theorem gRng : Tryz.prog.globalNamed "strconv.ErrRange" = some 5 := by kernel_rfl
theorem gRngT : (Tryz.prog.globals[5]?).map (·.type) = some 66 := by kernel_rfl
theorem gSyn : Tryz.prog.globalNamed "strconv.ErrSyntax" = some 4 := by kernel_rfl
theorem gSynT : (Tryz.prog.globals[4]?).map (·.type) = some 66 := by kernel_rfl
theorem gBig : Tryz.prog.globalNamed "math/bits.deBruijn64tab" = some 7 := by kernel_rfl
theorem powData : Rows.laid_internal_strconv_uint64pow10 (H := Unit) = Lib.tabData .u64 Lib.pow10Tab := by kernel_rfl
theorem glob_tab {W : World} {r : List (String × DataW Unit)} (h : laidMet Tryz.prog (("internal/strconv.uint64pow10", Rows.laid_internal_strconv_uint64pow10) :: r) W) : Lib.TabIs Tryz.prog W "internal/strconv.uint64pow10" .u64 Lib.pow10Tab := by
  rw [powData] at h
  exact Lib.tabIs_of_head (rest := r) gPow gPowT Tryz.underlying130 Tryz.underlying122 (by kernel_rfl) (by kernel_rfl) h
theorem glob_rng {W : World} {r : List (String × DataW Unit)} (h : laidMet Tryz.prog (("strconv.ErrRange", Rows.laid_strconv_ErrRange) :: r) W) : ∃ t p, W.cell? ⟨5, 0, none⟩ = some (.iface t p) := by
  obtain ⟨a, s, hv, -⟩ := laid_sentinel h gRng gRngT Tryz.underlying66 rowErr Tryz.underlying155 Tryz.underlying157 rfl rfl Tryz.underlying9 (by kernel_rfl) (by kernel_rfl)
  exact ⟨_, _, by simpa using World.var?_cell gRng hv 0⟩
theorem glob_syn {W : World} {r : List (String × DataW Unit)} (h : laidMet Tryz.prog (("strconv.ErrSyntax", Rows.laid_strconv_ErrSyntax) :: r) W) : ∃ t p, W.cell? ⟨4, 0, none⟩ = some (.iface t p) := by
  obtain ⟨a, s, hv, -⟩ := laid_sentinel h gSyn gSynT Tryz.underlying66 rowErr Tryz.underlying155 Tryz.underlying157 rfl rfl Tryz.underlying9 (by kernel_rfl) (by kernel_rfl)
  exact ⟨_, _, by simpa using World.var?_cell gSyn hv 0⟩
theorem glob_size {W : World} {d : DataW Unit} {r : List (String × DataW Unit)} (h : laidMet Tryz.prog (("math/bits.deBruijn64tab", d) :: r) W) : 8 ≤ W.heap.size := by
  obtain ⟨ps, ⟨g, t, cs, fuel, p, q, hg, ht, hv, hd, _, _⟩, _, _⟩ := h
  unfold World.var? at hv
  rw [gBig] at hv
  simp only [Option.bind_some] at hv
  rcases Nat.lt_or_ge 7 W.heap.size with h' | h'
  · omega
  · rw [show 7 = 7 from rfl, Array.getElem?_eq_none h'] at hv
    cases hv
theorem glob7 {W : World} {d1 d2 d3 d4 : DataW Unit} (h : laidMet Tryz.prog [("math/bits.deBruijn32tab", d1), ("math/bits.deBruijn64tab", d2), ("internal/strconv.uint64pow10", Rows.laid_internal_strconv_uint64pow10), ("unicode/utf8.acceptRanges", d3), ("strconv.ErrRange", Rows.laid_strconv_ErrRange), ("strconv.ErrSyntax", Rows.laid_strconv_ErrSyntax), ("unicode/utf8.first", d4)] W) : Glob W ∧ 8 ≤ W.heap.size :=
  ⟨⟨glob_tab h.tail.tail, glob_syn h.tail.tail.tail.tail.tail, glob_rng h.tail.tail.tail.tail⟩, glob_size h.tail⟩
end Go.Proofs.YtoabpbdjffonlaaGreatDoor
