/-
  What the program's Waiting and RipeAt answer: lists of the call's own.
-/
import Derived.Test.YtkdelfadmnpkhaaQueG
namespace Go.Proofs.Ytkdelfadmnpkhaa
open Go.ChangeShapes Go.WideShapes Go.ChangeAt Go.RowKit

theorem own_row {w : World} {B b k c : Nat} {out : List Wai} (hk : out.length = k) (h : w.ownsRow B 26 4 (.slice (some ⟨b, 0, none⟩) k c) k (out.flatMap Wai.cs)) : OwnR Wai.cs 4 w B (some ⟨b, 0, none⟩) out ∧ out.length ≤ c := by
  subst hk
  obtain ⟨a, c', e, hr, -⟩ := ownR_of Wai.len h
  injection e with e1 _ e3
  subst e1; subst e3
  exact ⟨hr, (own_some h).2.1⟩
/-- All come out. -/
theorem left_all {w w' : World} {B q g cap : Nat} {ss : List Tur} {e : Ending} (h : Left w B q g cap ss 1000 e w') (ha : ∀ t ∈ ss, t.w.ripe ≤ 1000) :
    ∃ b c, e = .returned (.slice (some ⟨b, 0, none⟩) (ss.map Tur.w).length c) ∧ OwnR Wai.cs 4 w' w.heap.size (some ⟨b, 0, none⟩) (ss.map Tur.w) ∧ (ss.map Tur.w).length ≤ c ∧ But q g w w' ∧ w.heap.size ≤ b := by
  obtain ⟨k, b, c, us, rfl, hs, ho, -, -, -, hb⟩ := h
  obtain rfl := stops_all hs ha
  rw [List.take_length] at ho
  have := own_row (by simp) ho
  exact ⟨b, c, by rw [List.length_map], this.1, this.2, hb, (own_some ho).2.2.2.1⟩

theorem ownR_down {w : World} {B B' : Nat} {a : Option Addr} {xs : List Wai} (h : OwnR Wai.cs 4 w B a xs) (hB : B' ≤ B) : OwnR Wai.cs 4 w B' a xs := h.mono hB

/-- What comes back where all of ss come out. -/
theorem wait_ends {w w1 w' : World} {B q g cap : Nat} {ss : List Tur} {ps : List Wai} {p : Wai} {e : Ending} (h : Left w1 B q g cap ss 1000 e w') (ha : ∀ t ∈ ss, t.w.ripe ≤ 1000) (hb : Below w.heap.size w w1) (hB : w.heap.size ≤ B) (hq : B ≤ q) (hg : B ≤ g) (hl : ss.map Tur.w = waitingL ps p) :
    ∃ b c, e = .returned (.slice (some ⟨b, 0, none⟩) (waitingL ps p).length c) ∧ ResOB Wai.cs 4 (waitingL ps p) (waitingB ps p) w (.returned (.tuple #[.slice (some ⟨b, 0, none⟩) (waitingL ps p).length c, .bool (waitingB ps p)])) w' := by
  obtain ⟨b, c, he, ho, hle, hbt, -⟩ := left_all h ha
  rw [hl] at he ho hle
  exact ⟨b, c, he, ⟨_, c, rfl, ho.mono hb.size, hb.trans (hbt.below hb.size (by omega) (by omega)), hle⟩⟩

set_option maxHeartbeats 4000000 in
set_option maxRecDepth 100000 in
theorem iWaiting_any {w : World} {b off : Nat} {ps : List Wai} (cap : Nat) (q : Wai) (h : Recs Wai.cs w (some ⟨b, off, none⟩) ps) (_ : ps.length ≤ cap) (hl : ps.length ≤ 1048576) (hs : WSized ps) (hq : q.who.size ≤ maxLen ∧ q.mill.size ≤ maxLen) :
    Calls Try.prog 13 #[.slice (some ⟨b, off, none⟩) ps.length cap, .agg #[.string q.who, .string q.mill, .int .i64 q.amount, .int .i64 q.ripe]] w (ResOB Wai.cs 4 (waitingL ps q) (waitingB ps q) w) := by
  have HH := Lib.hid (Recs.below h (below_new w (.cells #[.string q.who, .string q.mill, .int .i64 q.amount, .int .i64 q.ripe] 26)))
  have HS := Lib.hid hs
  have HQ := Lib.hid hq
  have hx := RecAt.new Wai.cs w q 26
  obtain ⟨W, hW⟩ : ∃ W, w.alloc (.cells #[.string q.who, .string q.mill, .int .i64 q.amount, .int .i64 q.ripe] 26) = W := ⟨_, rfl⟩
  have HB0 := Lib.hid (show Below w.heap.size w W by rw [← hW]; exact below_new _ _)
  have HX := Lib.hid (show RecAt Wai.cs W w.heap.size q by rw [← hW]; exact hx)
  rw [hW] at HH
  have hWs : w.heap.size < W.heap.size := by rw [← hW]; simp
  clear h hs hq hx
  go_enter Try.func13, Try.ntmps13
  go_wp2_with fail
  refine (iQueued_any _ HH.out hl HS.out).mono ?_
  rintro e w1 ⟨rfl, ⟨g, c1, us, hq1, hp1, hh1⟩, hb1⟩
  have HB1 := Lib.hid (HB0.out.trans (hb1.mono (Nat.le_of_lt hWs)))
  have hx1 := HX.out.under hb1 hWs
  have y0 := hx1 0 _ rfl
  have y1 := hx1 1 _ rfl
  have y2 := hx1 2 _ rfl
  have y3 := hx1 3 _ rfl
  have HQ1 := Lib.hid hq1
  have HH1 := Lib.hid hh1
  have hrf := hq1.ref
  have hqg := hq1.glo.1
  have hB1 : W.heap.size ≤ w1.heap.size := hb1.size
  clear hW hb1 hq1 hh1 HH
  cases hf : waitsB ps
  · rw [hf] at hp1
    have hus : us = [] := by simpa using hp1
    subst hus
    have HWN := Lib.hid (waiting_no (q := q) hf)
    clear hp1
    go_wp2_with fail
    refine (qLeave_any (ss := []) 1000 HQ1.out (by simp) (fun t ht => by simp at ht) HH1.out (List.Perm.refl _) List.Pairwise.nil).mono ?_
    rintro e w2 hw2
    obtain ⟨b2, c2, rfl, hr2⟩ := wait_ends (ps := ps) (p := q) hw2 (fun t ht => by simp at ht) HB1.out (Nat.le_of_lt hWs) (by omega) hqg (by rw [HWN.out.2]; rfl)
    have HR := Lib.hid (show ResOB Wai.cs 4 (waitingL ps q) (waitingB ps q) w (.returned (.tuple #[.slice (some ⟨b2, 0, none⟩) (waitingL ps q).length c2, .bool false])) w2 by rw [← HWN.out.1]; exact hr2)
    clear hw2 hr2
    go_wp2
    go_ret2
    exact HR.out
  rw [hf] at hp1
  simp only [if_true] at hp1
  have HP1 := Lib.hid hp1
  have h20 := (waits_true hf).1
  have hlu : us.length = ps.length := by rw [hp1.length_eq, tagW_len]
  rw [hlu] at hrf
  have HFI := Lib.hid ((tagW_fine ps (show ps.length ≤ 100 by omega)).perm hp1)
  have HLU := Lib.hid hlu
  clear hp1 hlu
  have HKEEP : Hid (waitingB ps q = false → ∀ W2, Below w1.heap.size w1 W2 → Calls Try.prog 43 #[.pointer (some ⟨W.heap.size + 1, 0, none⟩), .int .i64 1000] W2 fun e w2 => ∃ b c, e = .returned (.slice (some ⟨b, 0, none⟩) (waitingL ps q).length c) ∧ ResOB Wai.cs 4 (waitingL ps q) (waitingB ps q) w (.returned (.tuple #[.slice (some ⟨b, 0, none⟩) (waitingL ps q).length c, .bool false])) w2) := by
    intro hno W2 hb2
    refine (qLeave_any (ss := tagW ps ps.length) 1000 (HQ1.out.below hb2) (by rw [tagW_len]; omega) HFI.out HH1.out HP1.out (tagW_row hf)).mono ?_
    rintro e w2 hw2
    obtain ⟨b2, c2, he, hr2⟩ := wait_ends (ps := ps) (p := q) hw2 (fun t ht => wait_ripe hf _ (by have := List.mem_map_of_mem (f := Tur.w) ht; rwa [tagW_map] at this)) (below_trans HB1.out hb2) (Nat.le_of_lt hWs) (by omega) hqg (by rw [tagW_map, waiting_keep hf hno])
    exact ⟨b2, c2, he, by rw [hno] at hr2 ⊢; exact hr2⟩
  go_wp2_with fail
  refine (iWaitRight_any q _ HQ.out.1 HQ.out.2).mono ?_
  rintro e w2 ⟨rfl, hb2⟩
  have HB2 := Lib.hid hb2
  have hrf2 := (hb2.cell (p := ⟨W.heap.size + 1, 0, none⟩) (at_lt hrf)).trans hrf
  have hx2 := hx1.below hb2
  have z0 := hx2 0 _ rfl
  have z1 := hx2 1 _ rfl
  have z2 := hx2 2 _ rfl
  have z3 := hx2 3 _ rfl
  clear hb2 hrf y0 y1 y2 y3 hx1 hx2
  cases hr : waitB q
  · have HNO := Lib.hid (waiting_not (ps := ps) (q := q) (put_not (.inl hr)))
    go_wp2_with fail
    refine (HKEEP.out HNO.out _ HB2.out).mono ?_
    rintro e w3 ⟨b3, c3, rfl, hr3⟩
    have HR := Lib.hid hr3
    clear hr3
    go_wp2
    go_ret2
    exact HR.out
  by_cases hlt : ps.length < 20
  case neg =>
    have HNO := Lib.hid (waiting_not (ps := ps) (q := q) (put_not (.inr hlt)))
    have hd : decide ((ps.length : Int) < 20) = false := by simp; omega
    go_wp2_with (go_at_call 41; refine (qLen_any _ _ _ _).mono ?_; rintro e w' ⟨rfl, rfl⟩)
    refine (HKEEP.out HNO.out _ HB2.out).mono ?_
    rintro e w3 ⟨b3, c3, rfl, hr3⟩
    have HR := Lib.hid hr3
    clear hr3
    go_wp2
    go_ret2
    exact HR.out
  have HYES := Lib.hid (waiting_yes hf (put_waits hf hr hlt))
  have hd : decide ((ps.length : Int) < 20) = true := by simp; omega
  have HWP := Lib.hid (put_waits hf hr hlt)
  have hle2 : w1.heap.size ≤ w2.heap.size := HB2.out.size
  have HTS := Lib.hid (show us ++ [(⟨q, (us.length : Int)⟩ : Tur)] = us ++ [⟨q, (ps.length : Int)⟩] by rw [HLU.out])
  go_wp2_with (go_at_call 41; refine (qLen_any _ _ _ _).mono ?_; rintro e w' ⟨rfl, rfl⟩)
  refine (qJoin_any q (HQ1.out.below HB2.out) (Nat.le_trans hB1 hle2) (by rw [HLU.out]; omega) HFI.out HH1.out).mono ?_
  rintro e w3 ⟨rfl, ⟨g3, c3, us3, hq3, hp3, hh3⟩, hb3⟩
  have HQ3 := Lib.hid hq3
  have HH3 := Lib.hid hh3
  have HP3 := Lib.hid (show us3.Perm (putT ps q) by
    rw [HTS.out] at hp3
    exact (hp3.trans (HP1.out.append_right _)).trans (putT_perm ps q))
  have HB3 := Lib.hid (show Below w.heap.size w w3 from (below_trans HB1.out HB2.out).trans (hb3.mono (Nat.le_of_lt hWs)))
  have hg3 := hq3.glo.1
  clear hq3 hp3 hh3 hb3
  go_wp2_with fail
  refine (qLeave_any (ss := putT ps q) 1000 HQ3.out (by rw [← HP3.out.length_eq]; have := HP3.out.length_eq; have h2 := (putT_perm ps q).length_eq; rw [List.length_append, tagW_len] at h2; simp at h2; omega) ((show Fine (putT ps q) from fun t ht => by
      have hm := (putT_perm ps q).mem_iff.2 ht
      rcases List.mem_append.1 hm with hm | hm
      · have := tagW_came hm; omega
      · rw [List.mem_singleton] at hm; subst hm; simp only; omega).perm HP3.out) HH3.out HP3.out (putT_row q hf)).mono ?_
  rintro e w4 hw4
  obtain ⟨b4, c4, rfl, hr4⟩ := wait_ends (ps := ps) (p := q) hw4 (fun t ht => wait_ripe HWP.out _ (by have := List.mem_map_of_mem (f := Tur.w) ht; rwa [putT_map] at this)) HB3.out (Nat.le_of_lt hWs) (by omega) hg3 (by rw [putT_map, HYES.out.2])
  have HR := Lib.hid (show ResOB Wai.cs 4 (waitingL ps q) (waitingB ps q) w (.returned (.tuple #[.slice (some ⟨b4, 0, none⟩) (waitingL ps q).length c4, .bool true])) w4 by rw [← HYES.out.1]; exact hr4)
  clear hw4 hr4
  go_wp2
  go_ret2
  exact HR.out

/-- How those of a list come out at a season. -/
structure Outs (ps : List Wai) (ss : List Tur) (season : Int) : Prop where
  row : Rowed ss
  fine : Fine ss
  few : ss.length ≤ 20
  old : ∀ t ∈ ss, t.w.ripe ≤ 1000
  parts : ∀ k, Stops ss season k → (ss.take k).map Tur.w = ripeV ps season ∧ (ss.drop k).map Tur.w = laterV ps season
theorem outs_of (ps : List Wai) (season : Int) : Outs ps (if waitsB ps then tagW ps ps.length else []) season := by
  cases hf : waitsB ps
  · exact ⟨List.Pairwise.nil, fun t ht => by simp at ht, by simp, fun t ht => by simp at ht, fun k _ => by simp [ripeV, laterV, hf]⟩
  · have h20 := (waits_true hf).1
    refine ⟨tagW_row hf, tagW_fine ps (by omega), by simp [tagW_len]; omega, fun t ht => wait_ripe hf _ ?_, fun k hk => ?_⟩
    · have := List.mem_map_of_mem (f := Tur.w) (show t ∈ tagW ps ps.length from ht)
      rwa [tagW_map] at this
    · have := stops_parts hf hk
      rw [this.1, this.2]
      simp only [if_true]
      rw [List.map_take, List.map_drop, tagW_map]
      exact ⟨rfl, rfl⟩

set_option maxHeartbeats 4000000 in
set_option maxRecDepth 100000 in
theorem iRipeAt_any {w : World} {a : Option Addr} {ps : List Wai} (cap : Nat) (season : Int) (h : Recs Wai.cs w a ps) (hl : ps.length ≤ 1048576) (hs : WSized ps) :
    Calls Try.prog 15 #[.slice a ps.length cap, .int .i64 season] w (ResOO Wai.cs 4 (laterV ps season) (ripeV ps season) w) := by
  have H := Lib.hid h
  have HS := Lib.hid hs
  clear h hs
  obtain ⟨ss, hss⟩ : ∃ ss, (if waitsB ps then tagW ps ps.length else []) = ss := ⟨_, rfl⟩
  have HU := Lib.hid (show Outs ps ss season by rw [← hss]; exact outs_of ps season)
  have HSS := Lib.hid hss
  clear hss
  go_enter Try.func15, Try.ntmps15
  go_wp2_with fail
  refine (iQueued_any _ H.out hl HS.out).mono ?_
  rintro e w1 ⟨rfl, ⟨g, c1, us, hq1, hp1, hh1⟩, hb1⟩
  have HQ1 := Lib.hid hq1
  have HP1 := Lib.hid (show us.Perm ss by rw [← HSS.out]; exact hp1)
  have HH1 := Lib.hid hh1
  have HB1 := Lib.hid hb1
  clear hq1 hp1 hh1 hb1
  go_wp2_with fail
  refine (qLeave_any (ss := ss) season HQ1.out (Nat.le_trans HU.out.few (by omega)) (HU.out.fine.perm HP1.out) HH1.out HP1.out HU.out.row).mono ?_
  rintro e w2 ⟨k, b2, c2, us2, rfl, hst, ho2, hq2, hp2, hh2, hbt2⟩
  have HST := Lib.hid hst
  have HO2 := Lib.hid ho2
  have HQ2 := Lib.hid hq2
  have HP2 := Lib.hid hp2
  have HH2 := Lib.hid hh2
  have HBT2 := Lib.hid hbt2
  clear hst ho2 hq2 hp2 hh2 hbt2
  go_wp2_with fail
  refine (qLeave_any (ss := ss.drop k) 1000 HQ2.out (by have := HU.out.few; rw [List.length_drop]; omega) (fun t ht => HU.out.fine t (List.mem_of_mem_drop (HP2.out.mem_iff.1 ht))) HH2.out HP2.out HU.out.row.drop).mono ?_
  rintro e w3 hw3
  obtain ⟨b3, c3, he3, ho3, hle3, hbt3, hb3⟩ := left_all hw3 (fun t ht => HU.out.old t (List.mem_of_mem_drop ht))
  obtain ⟨L, HL⟩ : ∃ L, Hid (((ss.drop k).map Tur.w).length = L) := ⟨_, Lib.hid rfl⟩
  rw [HL.out] at he3
  subst he3
  have HR : Hid (ResOO Wai.cs 4 (laterV ps season) (ripeV ps season) w (.returned (.tuple #[.slice (some ⟨b3, 0, none⟩) L c3, .slice (some ⟨b2, 0, none⟩) k c2])) w3) := by
    rw [← HL.out]
    obtain ⟨e1, e2⟩ := HU.out.parts k HST.out
    have hlo := HQ1.out.lo
    have hhi := HQ1.out.hi
    have hgl := HQ1.out.glo
    have hs1 := HB1.out.size
    have hs2 := HBT2.out.size
    obtain ⟨-, -, -, o1, o2⟩ := own_some HO2.out
    have ho2' := hbt3.own HO2.out (fun z hz => by
      have e : b2 = z := by simpa [Value.ownBlock] using hz
      subst e; exact ⟨by omega, by omega⟩)
    have hkl : ((ss.take k).map Tur.w).length = k := by have := HST.out.1; simp; omega
    have r2 := own_row hkl ho2'
    rw [e2] at ho3 ⊢
    rw [e1] at r2 hkl
    refine ⟨_, c3, _, c2, by rw [hkl], ho3.mono (by omega), r2.1.mono hs1, ?_, ?_⟩
    · intro x1 x2 h1 h2 _ _
      injection h1 with h1; injection h1 with h1
      injection h2 with h2; injection h2 with h2
      omega
    · exact HB1.out.trans ((HBT2.out.trans hbt3).below hs1 hlo hgl.1)
  clear hw3 ho3 hle3 hbt3 hb3
  go_wp2
  go_ret2
  exact HR.out
end Go.Proofs.Ytkdelfadmnpkhaa
