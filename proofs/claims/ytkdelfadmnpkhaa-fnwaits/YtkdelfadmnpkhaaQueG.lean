/-
  The program's queue: all of a list join, those that are ripe leave.
-/
import Derived.Test.YtkdelfadmnpkhaaQueF
namespace Go.Proofs.Ytkdelfadmnpkhaa
open Go.ChangeShapes Go.WideShapes Go.ChangeAt Go.RowKit

/-- What 'queued' leaves: a queue in the second block behind all that was there, of those that joined. -/
def Queued (w : World) (ps : List Wai) (ok : Bool) (e : Ending) (w' : World) : Prop :=
  e = .returned (.tuple #[.pointer (some ⟨w.heap.size + 1, 0, none⟩), .bool ok]) ∧ (∃ g cap us, Que w' w.heap.size (w.heap.size + 1) g us cap ∧ us.Perm (if ok then tagW ps ps.length else []) ∧ Heaped us us.length) ∧ Below w.heap.size w w'
/-- The loop's word. -/
def QueRel (w : World) (ps : List Wai) (i : Value) (w' : World) : Prop :=
  ∃ k : Nat, k ≤ ps.length ∧ i = .int .i64 k ∧ (∃ g cap us, Que w' w.heap.size (w.heap.size + 1) g us cap ∧ us.Perm (tagW ps k) ∧ Heaped us us.length) ∧ Below w.heap.size w w'

set_option maxHeartbeats 4000000 in
set_option maxRecDepth 100000 in
theorem iQueued_any {w : World} {a : Option Addr} {ps : List Wai} (cap : Nat) (h : Recs Wai.cs w a ps) (hl : ps.length ≤ 1048576) (hs : WSized ps) :
    Calls Try.prog 39 #[.slice a ps.length cap] w (Queued w ps (waitsB ps)) := by
  have H := Lib.hid h
  have HS := Lib.hid hs
  clear h hs
  have HB0 : Hid (Below w.heap.size w ((w.alloc (.cells #[] 89)).alloc (.cells #[.slice (some ⟨w.heap.size, 0, none⟩) 0 0] 85))) := below_trans (below_new _ _) (below_new _ _)
  have HQ0 : Hid (Que ((w.alloc (.cells #[] 89)).alloc (.cells #[.slice (some ⟨w.heap.size, 0, none⟩) 0 0] 85)) w.heap.size (w.heap.size + 1) w.heap.size [] 0) := by
    have e : (w.alloc (.cells #[] 89)).heap.size = w.heap.size + 1 := by simp
    have o1 : (w.alloc (.cells #[] 89)).ownsRow w.heap.size 89 5 (.slice (some ⟨w.heap.size, 0, none⟩) 0 0) 0 [] := ⟨rfl, .inr ⟨w.heap.size, 0, #[], rfl, Nat.le_refl _, heap_alloc_new _ _, Nat.le_refl _, Nat.zero_le _, rfl, rfl⟩⟩
    refine ⟨?_, ?_, o1.alloc _, by omega, by simp, by omega⟩
    · have := RecAt.new (fun v : Value => [v]) (w.alloc (.cells #[] 89)) (.slice (some ⟨w.heap.size, 0, none⟩) 0 0) 85 0 _ rfl
      rw [e] at this; exact this
    · have := free_new (w.alloc (.cells #[] 89)) #[.slice (some ⟨w.heap.size, 0, none⟩) 0 0] 85 0
      rw [e] at this; exact this
  go_enter Try.func39, Try.ntmps39
  go_wp2_with fail
  refine (iWaitsOk_any _ (H.out.below HB0.out) (by omega) HS.out).mono ?_
  rintro e w1 ⟨rfl, hb1⟩
  have HB1 := Lib.hid (below_trans HB0.out hb1)
  have HQ1 := Lib.hid (HQ0.out.below hb1)
  clear hb1 HB0 HQ0
  cases hf : waitsB ps
  · have HN : Hid (Queued w ps false (.returned (.tuple #[.pointer (some ⟨w.heap.size + 1, 0, none⟩), .bool false])) w1) :=
      ⟨rfl, ⟨w.heap.size, 0, [], HQ1.out, by simp, fun x _ hx => by simp at hx⟩, HB1.out⟩
    go_wp2
    go_ret2
    rw [hf]
    exact HN.out
  have h20 := (waits_true hf).1
  have HR0 : Hid (QueRel w ps (.int .i64 0) w1) := ⟨0, Nat.zero_le _, rfl, ⟨w.heap.size, 0, [], HQ1.out, by simp [tagW], fun x _ hx => by simp at hx⟩, HB1.out⟩
  clear HB1 HQ1
  go_wp2_with fail
  go_loopw [15] (fun i wr => QueRel w ps i wr) (fun i _ => ps.length - (intOf i).toNat)
  case atStart => exact HR0.out
  case round =>
    clear HR0
    obtain ⟨k, hk, rfl, ⟨g, c, us, hq, hp, hh⟩, hb⟩ := hrel
    have HQ := Lib.hid hq
    have HP := Lib.hid hp
    have HH := Lib.hid hh
    have HB := Lib.hid hb
    clear hq hp hh hb
    by_cases hlt : k < ps.length
    · obtain ⟨b, off, rfl, hlb, c0, c1, c2, c3⟩ := Wai.at (H.out.below HB.out) k hlt
      have HLU := Lib.hid (show us.length = k by rw [HP.out.length_eq, tagW_len])
      have HFI := Lib.hid ((tagW_fine ps (show k ≤ 100 by omega)).perm HP.out)
      have HQN := Lib.hid (HQ.out.below (below_new wr (.cells #[.string ps[k].who, .string ps[k].mill, .int .i64 ps[k].amount, .int .i64 ps[k].ripe] 26)))
      have HBN := Lib.hid (below_trans HB.out (below_new wr (.cells #[.string ps[k].who, .string ps[k].mill, .int .i64 ps[k].amount, .int .i64 ps[k].ripe] 26)))
      have HSZ := Lib.hid HBN.out.size
      have HTS := Lib.hid (show us ++ [(⟨ps[k], (us.length : Int)⟩ : Tur)] = us ++ [⟨watn ps k, (k : Int)⟩] by rw [HLU.out, watn_eq hlt])
      go_wp2_with fail
      refine (qJoin_any ps[k] HQN.out HSZ.out (by rw [HLU.out]; omega) HFI.out HH.out).mono ?_
      rintro e w2 ⟨rfl, ⟨g2, c2', us2, hq2, hp2, hh2⟩, hb2⟩
      have HR : Hid (QueRel w ps (.int .i64 ((k : Int) + 1)) w2) := by
        refine ⟨k + 1, by omega, by go_num, ⟨g2, c2', us2, hq2, ?_, hh2⟩, HBN.out.trans hb2⟩
        rw [HTS.out] at hp2
        rw [tagW_succ]
        exact hp2.trans (HP.out.append_right _)
      clear hq2 hp2 hh2 hb2
      go_wp2
      go_roundw
      case rel => exact HR.out
      case measure => simp [intOf]; omega
    · obtain rfl : k = ps.length := by omega
      have HN : Hid (Queued w ps true (.returned (.tuple #[.pointer (some ⟨w.heap.size + 1, 0, none⟩), .bool true])) wr) := ⟨rfl, ⟨g, c, us, HQ.out, by simpa using HP.out, HH.out⟩, HB.out⟩
      go_wp2
      go_ret2
      rw [hf]
      exact HN.out

/-- What 'leave' leaves: the first k of those that wait, in a list of the call's own, and the others. -/
def Left (w : World) (B q g cap : Nat) (ss : List Tur) (season : Int) (e : Ending) (w' : World) : Prop :=
  ∃ k b c us, e = .returned (.slice (some ⟨b, 0, none⟩) k c) ∧ Stops ss season k ∧ w'.ownsRow w.heap.size 26 4 (.slice (some ⟨b, 0, none⟩) k c) k (((ss.take k).map Tur.w).flatMap Wai.cs) ∧ Que w' B q g us cap ∧ us.Perm (ss.drop k) ∧ Heaped us us.length ∧ But q g w w'
/-- The loop's word. -/
def LeaveRel (w : World) (B q g cap : Nat) (ss : List Tur) (season : Int) (v : Value) (w' : World) (k : Nat) : Prop :=
  ∃ b c us, v = .slice (some ⟨b, 0, none⟩) k c ∧ k ≤ ss.length ∧ (∀ j (h : j < ss.length), j < k → ss[j].w.ripe ≤ season) ∧ w'.ownsRow w.heap.size 26 4 (.slice (some ⟨b, 0, none⟩) k c) k (((ss.take k).map Tur.w).flatMap Wai.cs) ∧ Que w' B q g us cap ∧ us.Perm (ss.drop k) ∧ Heaped us us.length ∧ But q g w w'
def lenOf : Value → Nat
  | .slice _ n _ => n
  | _ => 0

theorem But.grown {q g b : Nat} {w w1 w2 : World} (h : But q g w w1) (hg : w1.grownBy w2 (some b)) (hb : w.heap.size ≤ b) : But q g w w2 :=
  ⟨hg.os.trans h.os, hg.tape.trans h.tape, hg.output.trans h.output, Nat.le_trans h.size hg.size, fun i hi h1 h2 => (hg.block i (Nat.lt_of_lt_of_le hi h.size) (by intro e; injection e with e; omega)).trans (h.block i hi h1 h2)⟩
theorem Que.grown {w w' : World} {B q g b cap : Nat} {ts : List Tur} (h : Que w B q g ts cap) (hg : w.grownBy w' (some b)) (hq : b ≠ q) (hgb : b ≠ g) : Que w' B q g ts cap := by
  have hb := hg.block q h.hi (by intro e; injection e with e; exact hq e.symm)
  exact ⟨by rw [World.cell?_of_block hb]; exact h.ref, by rw [World.frozen?_of_block hb]; exact h.free, h.row.kept hg (.inr (by intro e; injection e with e; exact hgb e.symm)), h.lo, Nat.lt_of_lt_of_le h.hi hg.size, h.ne⟩

set_option maxHeartbeats 4000000 in
set_option maxRecDepth 100000 in
theorem qLeave_any {w : World} {B q g cap : Nat} {ts ss : List Tur} (season : Int) (h : Que w B q g ts cap) (hl : ss.length ≤ 90) (hf : Fine ts) (hh : Heaped ts ts.length) (hp : ts.Perm ss) (hr : Rowed ss) :
    Calls Try.prog 43 #[.pointer (some ⟨q, 0, none⟩), .int .i64 season] w (Left w B q g cap ss season) := by
  obtain ⟨i0, hi, hz0, hz1, hz2⟩ := info_parts info_Wait
  have HI := Lib.hid hi
  have HZ0 := Lib.hid hz0
  have HZ1 := Lib.hid hz1
  have HZ2 := Lib.hid hz2
  clear hi hz0 hz1 hz2
  have HF := Lib.hid (hf.perm hp.symm)
  have HRW := Lib.hid hr
  have hql := h.hi
  have hgl := h.glo.2
  have HR0 : Hid (∃ k, LeaveRel w B q g cap ss season (.slice (some ⟨w.heap.size, 0, none⟩) 0 0) (w.alloc (.cells #[] 26)) k) := by
    refine ⟨0, w.heap.size, 0, ts, rfl, Nat.zero_le _, fun _ _ h => by omega, ?_, h.below (below_new _ _), by simpa using hp, hh, But.of (below_new _ _)⟩
    exact ⟨rfl, .inr ⟨w.heap.size, 0, #[], rfl, Nat.le_refl _, heap_alloc_new _ _, Nat.le_refl _, Nat.zero_le _, rfl, rfl⟩⟩
  clear h hf hh hp hr
  go_enter Try.func43, Try.ntmps43
  go_wp2_with fail
  go_loopw [5] (fun v wr => ∃ k, LeaveRel w B q g cap ss season v wr k) (fun v _ => ss.length - lenOf v)
  case atStart => exact HR0.out
  case round =>
    clear HR0
    obtain ⟨k, b, c, us, rfl, hk, hle, ho, hq, hp, hh, hbut⟩ := hrel
    have HLE := Lib.hid hle
    have HO := Lib.hid ho
    have HQ := Lib.hid hq
    have HP := Lib.hid hp
    have HH := Lib.hid hh
    have HBT := Lib.hid hbut
    have hlu : us.length = ss.length - k := by rw [hp.length_eq, List.length_drop]
    have hrf := hq.ref
    obtain ⟨-, -, -, hb1, hb2⟩ := own_some ho
    clear hle ho hq hp hh hbut
    by_cases hlt : k < ss.length
    · have HDR := Lib.hid (List.drop_eq_getElem_cons hlt)
      have HRK := Lib.hid (show Rowed (ss[k] :: ss.drop (k + 1)) by rw [← HDR.out]; exact HRW.out.drop)
      have HPK := Lib.hid (show us.Perm (ss[k] :: ss.drop (k + 1)) by rw [← HDR.out]; exact HP.out)
      have h0 : 0 < us.length := by omega
      have HFI := Lib.hid (show us[0] = ss[k] by rw [← tatn_eq h0]; exact (first_is HH.out HPK.out HRK.out).2)
      obtain ⟨-, x0, x1, x2, x3, x4⟩ := Tur.at HQ.out.recs 0 h0
      simp only [Nat.zero_mul, Nat.zero_add] at x0 x1 x2 x3 x4
      rw [HFI.out] at x3
      clear x0 x1 x2 x4
      by_cases hrp : ss[k].w.ripe ≤ season
      · have hta := assert_turn ss[k]
        have htf := field_turn ss[k]
        have HBZ : Hid (∀ z, (Value.slice (some ⟨b, 0, none⟩) k c).ownBlock = some z → z ≠ q ∧ z ≠ g) := by
          intro z hz
          have : b = z := by simpa [Value.ownBlock] using hz
          omega
        have HFU := Lib.hid (show Fine us from fun t ht => HF.out t (List.mem_of_mem_drop (HP.out.mem_iff.1 ht)))
        have HLU := Lib.hid hlu
        go_wp2_with (go_at_call 41; refine (qLen_any _ _ _ _).mono ?_; rintro e w' ⟨rfl, rfl⟩)
        refine (hPop_any (n := us.length - 1) HQ.out (by omega) (by omega) HFU.out HH.out HPK.out HRK.out).mono ?_
        rintro e w2 ⟨rfl, us2, hq2, hp2, hh2, hbt2⟩
        have HQ2 := Lib.hid hq2
        have HP2 := Lib.hid hp2
        have HH2 := Lib.hid hh2
        have HBT2 := Lib.hid (HBT.out.trans hbt2)
        have HO2 := Lib.hid ((hbt2.own HO.out HBZ.out).alloc (.cells #[.string ss[k].w.who, .string ss[k].w.mill, .int .i64 ss[k].w.amount, .int .i64 ss[k].w.ripe] 26))
        have hsz2 : w.heap.size ≤ w2.heap.size := HBT2.out.size
        have HN2 := Lib.hid (rec_new ss[k].w w2)
        clear hq2 hp2 hh2 hbt2 hrf x3
        unfold Tur.val
        go_wp2_with (at_builtin; refine wpList_append_some rfl _ _ 24 rfl w.heap.size 26 i0 (.agg #[.string ByteArray.empty, .string ByteArray.empty, .int .i64 0, .int .i64 0]) 4 48 Try.underlying24 HI.out HZ0.out HZ1.out HZ2.out rfl (by decide) b c _ _ rfl HO2.out ⟨w2.heap.size, 0, none⟩ 1 1 ss[k].w.cs rfl rfl HN2.out (Wai.one _) ?c2 ?c3 ?_)
        case c2 => unfold maxLen; omega
        case c3 => omega
        rintro g6 c6 w6 ⟨h6, h6g, h6b, h6l, h6x⟩
        have HR : Hid (LeaveRel w B q g cap ss season (.slice (some ⟨g6, 0, none⟩) (k + 1) c6) w6 (k + 1)) := by
          refine ⟨g6, c6, us2, rfl, by omega, ?_, ?_, (HQ2.out.below (below_new _ _)).grown h6g (by omega) (by omega), HP2.out, HH2.out, (HBT2.out.trans (But.of (below_new _ _))).grown h6g hb1⟩
          · intro j hj hjk
            by_cases e : j = k
            · subst e; exact hrp
            · exact HLE.out j hj (by omega)
          · rw [List.take_succ_eq_append_getElem hlt, List.map_append, List.flatMap_append]
            simpa using h6
        clear h6 h6g h6b h6l h6x
        go_wp2
        go_roundw
        case rel => exact ⟨k + 1, HR.out⟩
        case measure => simp [lenOf]; omega
      · have HN : Hid (Left w B q g cap ss season (.returned (.slice (some ⟨b, 0, none⟩) k c)) wr) := ⟨k, b, c, us, rfl, ⟨hk, HLE.out, fun _ => by omega⟩, HO.out, HQ.out, HP.out, HH.out, HBT.out⟩
        go_wp2_with (go_at_call 41; refine (qLen_any _ _ _ _).mono ?_; rintro e w' ⟨rfl, rfl⟩)
        go_ret
        exact HN.out
    · obtain rfl : k = ss.length := by omega
      have hz : us.length = 0 := by omega
      rw [hz] at hrf
      have HN : Hid (Left w B q g cap ss season (.returned (.slice (some ⟨b, 0, none⟩) ss.length c)) wr) := ⟨ss.length, b, c, us, rfl, ⟨hk, HLE.out, fun h => absurd h hlt⟩, HO.out, HQ.out, HP.out, HH.out, HBT.out⟩
      go_wp2_with (go_at_call 41; refine (qLen_any _ _ _ _).mono ?_; rintro e w' ⟨rfl, rfl⟩)
      go_ret
      exact HN.out
end Go.Proofs.Ytkdelfadmnpkhaa
