/-
  Texts joined: WaitK, BookI, Facts6, BookJ, BookK, BookX, ArgStrs, ArgPurs.
-/
import Derived.Test.YtbgklakhelcgcaaGreatJ6
import Derived.SliceStrings
import Derived.ShutString
import Derived.ChangeOld
import Derived.Carry
import Derived.Deep.SlicePairs
namespace Go.Proofs.YtbgklakhelcgcaaGreat
open Go.ChangeShapes Go.WideShapes Go.ChangeAt Go.RowKit

theorem waits_all {ps : List Wai} (h20 : ps.length ≤ 20) (h : ∀ j (h : j < ps.length), waitB ps[j] = true) : waitsB ps = wsortB ps := by
  rw [Bool.eq_iff_iff]
  constructor
  · intro hw
    exact wsort_yes fun j hj _ => (waits_true hw).2.2 j hj hj
  · intro hs
    have hs' : WFrom ps 0 := by simpa [wsortB] using hs
    exact waits_yes h20 ⟨fun j hj _ => h j hj, fun j hj _ => hs' j hj (Nat.zero_le _)⟩

set_option maxHeartbeats 4000000 in
set_option maxRecDepth 100000 in
theorem iWaitsOk_any {w : World} {a : Option Addr} {ps : List Wai} (cap : Nat) (h : Recs Wai.cs w a ps) (hl : ps.length ≤ 9223372036854775807) (hs : WSized ps) :
    Calls Tryz.prog 76 #[.slice a ps.length cap] w fun e w' => e = .returned (.bool (waitsB ps)) ∧ Below w.heap.size w w' := by
  have H := Lib.hid h
  have HS := Lib.hid hs
  clear h hs
  by_cases h20 : ps.length ≤ 20
  case neg =>
    have HN := Lib.hid (waits_long h20)
    have hd : decide ((20 : Int) < (ps.length : Int)) = true := by simp; omega
    go_enter Tryz.func76, Tryz.ntmps76
    go_wp2
    go_ret
    exact ⟨by rw [HN.out]; rfl, Below.refl _ _⟩
  have hd : decide ((20 : Int) < (ps.length : Int)) = false := by simp; omega
  go_enter Tryz.func76, Tryz.ntmps76
  go_wp2
  go_loopw [10] (fun i w' => ∃ k : Nat, k ≤ ps.length ∧ i = .int .i64 k ∧ Below w.heap.size w w' ∧ ∀ j (h : j < ps.length), j < k → waitB ps[j] = true) (fun i _ => ps.length - (intOf i).toNat)
  case atStart => exact ⟨0, Nat.zero_le _, rfl, Below.refl _ _, fun _ _ h => by omega⟩
  case round =>
    obtain ⟨k, hk, rfl, hb, hu⟩ := hrel
    have HB := Lib.hid hb
    have HU := Lib.hid hu
    clear hb hu
    by_cases hlt : k < ps.length
    · obtain ⟨b, off, rfl, hlb, c0, c1, c2, c3⟩ := Wai.at (H.out.below HB.out) k hlt
      have hz1 := Lib.hid (HS.out k hlt).1
      have hz2 := Lib.hid (HS.out k hlt).2
      have HBN := Lib.hid (below_trans HB.out (below_new wr (.cells #[.string ps[k].who, .string ps[k].mill, .int .i64 ps[k].amount, .int .i64 ps[k].ripe] 73)))
      go_wp2_with fail
      refine (iWaitRight_any ps[k] _ hz1.out hz2.out).mono ?_
      rintro e w2 ⟨rfl, hb2⟩
      have HB2 := Lib.hid (below_trans HBN.out hb2)
      clear hb2 HBN
      cases hn : waitB ps[k]
      · have HN := Lib.hid (waits_not hlt hn)
        go_wp2
        go_ret
        exact ⟨by rw [HN.out]; rfl, HB2.out⟩
      · have HUN : Hid (∀ j (h : j < ps.length), j < k + 1 → waitB ps[j] = true) := by
          intro j h hj
          by_cases e : j = k
          · subst e; exact hn
          · exact HU.out j h (by omega)
        go_wp2
        go_roundw
        case rel => exact ⟨k + 1, by omega, by go_num, HB2.out, HUN.out⟩
        case measure => simp [intOf]; omega
    · obtain rfl : k = ps.length := by omega
      have HN := Lib.hid (waits_all h20 (fun j hj => HU.out j hj hj))
      go_wp2_with fail
      refine (iSorted_any _ (H.out.below HB.out) (by omega)).mono ?_
      rintro e w2 ⟨rfl, hb2⟩
      have HB2 := Lib.hid (below_trans HB.out hb2)
      clear hb2
      go_wp2
      go_ret
      exact ⟨by rw [HN.out]; rfl, HB2.out⟩

set_option maxHeartbeats 4000000 in
set_option maxRecDepth 100000 in
theorem iAmountIn_any {w : World} {a : Option Addr} {ps : List Wai} (cap : Nat) (h : Recs Wai.cs w a ps) (hl : ps.length ≤ 9223372036854775807) (hs : WSized ps) :
    Calls Tryz.prog 79 #[.slice a ps.length cap] w fun e w' => e = .returned (.int .i64 (amountInV ps)) ∧ Below w.heap.size w w' := by
  have H := Lib.hid h
  have HS := Lib.hid hs
  clear h hs
  go_enter Tryz.func79, Tryz.ntmps79
  go_wp2_with fail
  refine (iWaitsOk_any _ H.out hl HS.out).mono ?_
  rintro e w1 ⟨rfl, hb1⟩
  have HB1 := Lib.hid hb1
  clear hb1
  cases hf : waitsB ps
  · have HN := Lib.hid (show amountInV ps = -1 by simp [amountInV, hf])
    go_wp2
    go_ret
    exact ⟨by rw [HN.out]; rfl, HB1.out⟩
  · have HNN := Lib.hid (show amountInV ps = sumA ps ps.length by simp [amountInV, hf])
    obtain ⟨h20, hm⟩ := waits_true hf
    have HM := Lib.hid hm
    clear hm hf
    go_wp2_with fail
    go_loopw [3, 11] (fun t i w' => ∃ k : Nat, k ≤ ps.length ∧ i = .int .i64 k ∧ t = .int .i64 (sumA ps k) ∧ Below w.heap.size w w') (fun _ i _ => ps.length - (intOf i).toNat)
    case atStart => exact ⟨0, Nat.zero_le _, rfl, rfl, HB1.out⟩
    case round =>
      obtain ⟨k, hk, rfl, rfl, hb⟩ := hrel
      have HB := Lib.hid hb
      clear hb
      have hsb := sumA_bd HM.out k hk
      by_cases hlt : k < ps.length
      · obtain ⟨b, off, rfl, _, c0, c1, c2, c3⟩ := Wai.at (H.out.below HB.out) k hlt
        have HN := Lib.hid (show sumA ps (k + 1) = sumA ps k + ps[k].amount by simp only [sumA, watn_eq hlt])
        have hb3 := wait_bd (HM.out.1 k hlt hlt)
        have HBN := Lib.hid (below_trans HB.out (below_new wr (.cells #[.string ps[k].who, .string ps[k].mill, .int .i64 ps[k].amount, .int .i64 ps[k].ripe] 73)))
        go_wp2
        go_roundw
        case rel => exact ⟨k + 1, by omega, by go_num, by rw [HN.out], HBN.out⟩
        case measure => simp [intOf]; omega
      · obtain rfl : k = ps.length := by omega
        go_wp2
        go_ret
        exact ⟨by rw [HNN.out]; rfl, HB.out⟩

set_option maxHeartbeats 4000000 in
set_option maxRecDepth 100000 in
theorem iWaitsFor_any {w : World} {a : Option Addr} {ps : List Wai} (cap : Nat) (who : ByteArray) (h : Recs Wai.cs w a ps) (hl : ps.length ≤ 1048576) (hs : WSized ps) :
    Calls Tryz.prog 83 #[.slice a ps.length cap, .string who] w (ResW (waitsForV ps who) w) := by
  have H := Lib.hid h
  have HS := Lib.hid hs
  clear h hs
  obtain ⟨i0, hi, hz0, hz1, hz2⟩ := info_parts info_Wait
  have HI := Lib.hid hi
  have HZ0 := Lib.hid hz0
  have HZ1 := Lib.hid hz1
  have HZ2 := Lib.hid hz2
  clear hi hz0 hz1 hz2
  go_enter Tryz.func83, Tryz.ntmps83
  go_wp2_with fail
  refine (iWaitsOk_any _ H.out (by omega) HS.out).mono ?_
  rintro e w1 ⟨rfl, hb1⟩
  have HB1 := Lib.hid hb1
  clear hb1
  cases hf : waitsB ps
  · have HN := Lib.hid (show ResW (waitsForV ps who) w (.returned (.slice none 0 0)) w1 from by
      rw [show waitsForV ps who = [] by simp [waitsForV, hf]]
      exact ⟨none, 0, rfl, ⟨Lies.nil _ _, .inl rfl⟩, HB1.out⟩)
    go_wp2
    go_ret
    exact HN.out
  have hle1 : w.heap.size ≤ w1.heap.size := HB1.out.size
  have HR0 : Hid (ForRelW w ps who (.slice (some ⟨w1.heap.size, 0, none⟩) 0 0) (.int .i64 0) (w1.alloc (.cells #[] 73))) :=
    ⟨0, Nat.zero_le _, rfl, ⟨by simp [ofWhoW], .inr ⟨w1.heap.size, 0, #[], by simp [ofWhoW], hle1, heap_alloc_new _ _, by simp [ofWhoW], Nat.zero_le _, by simp, by simp [ofWhoW]⟩⟩, below_trans HB1.out (below_new _ _), .inl rfl⟩
  go_wp2_with fail
  go_loopw [5, 14] (fun v i wr => ForRelW w ps who v i wr) (fun _ i _ => ps.length - (intOf i).toNat)
  case atStart => exact HR0.out
  case round =>
    clear HR0
    obtain ⟨k, hk, rfl, hown, hb, hor⟩ := hrel
    have HW := Lib.hid hown
    have HB := Lib.hid hb
    clear hown hb hor
    by_cases hlt : k < ps.length
    · obtain ⟨b, off, rfl, hlb, c0, c1, c2, c3⟩ := Wai.at (H.out.below HB.out) k hlt
      have HOW1 := Lib.hid (HW.out.alloc (.cells #[.string ps[k].who, .string ps[k].mill, .int .i64 ps[k].amount, .int .i64 ps[k].ripe] 73))
      have HBN := Lib.hid (below_trans HB.out (below_new wr (.cells #[.string ps[k].who, .string ps[k].mill, .int .i64 ps[k].amount, .int .i64 ps[k].ripe] 73)))
      cases hq : (ps[k].who.toList == who.toList)
      · have HR : Hid (∀ v, wr.ownsRow w.heap.size 73 4 v (ofWhoW who (ps.take k)).length ((ofWhoW who (ps.take k)).flatMap Wai.cs) → ForRelW w ps who v (.int .i64 ((k : Int) + 1)) (wr.alloc (.cells #[.string ps[k].who, .string ps[k].mill, .int .i64 ps[k].amount, .int .i64 ps[k].ripe] 73))) :=
          fun v hv => ⟨k + 1, by omega, by go_num, by rw [ofWhoW_no hlt hq]; exact hv.alloc _, HBN.out, .inr hf⟩
        go_wp2
        go_roundw
        case rel => exact HR.out _ HW.out
        case measure => simp [intOf]; omega
      · have HLE := ofWhoW_le who (ps.take k)
        have hlk : (ps.take k).length = k := by simp; omega
        have HBL := Lib.hid (own_lo HW.out)
        have HYS := Lib.hid (ofWhoW_yes hlt hq)
        have HOW := Lib.hid (HOW1.out.alloc (.cells #[.string ps[k].who, .string ps[k].mill, .int .i64 ps[k].amount, .int .i64 ps[k].ripe] 73))
        have hle2 : w.heap.size ≤ wr.heap.size := HB.out.size
        rw [hlk] at HLE
        clear hlk
        have HN1 := Lib.hid (rec_new ps[k] (wr.alloc (.cells #[.string ps[k].who, .string ps[k].mill, .int .i64 ps[k].amount, .int .i64 ps[k].ripe] 73)))
        have HN2 := Lib.hid (show ∀ j u, ([ps[k]].flatMap Wai.cs)[j]? = some u → ((wr.alloc (.cells #[.string ps[k].who, .string ps[k].mill, .int .i64 ps[k].amount, .int .i64 ps[k].ripe] 73)).alloc (.cells #[.string ps[k].who, .string ps[k].mill, .int .i64 ps[k].amount, .int .i64 ps[k].ripe] 73)).cell? ((⟨wr.heap.size + 1, 0, none⟩ : Addr).add j) = some u by simpa using HN1.out)
        go_wp2_with (at_builtin; refine wpList_append_lies _ rfl _ _ 33 rfl w.heap.size 73 i0 (.agg #[.string ByteArray.empty, .string ByteArray.empty, .int .i64 0, .int .i64 0]) 4 48 Tryz.underlying33 HI.out HZ0.out HZ1.out HZ2.out rfl (by decide) _ _ _ rfl HOW.out ⟨wr.heap.size + 1, 0, none⟩ 1 1 ([ps[k]].flatMap Wai.cs) rfl ?c0 HN2.out (flat_one Wai.one _) (by decide) ?c3 ?c4 ?c5 _ rfl ?_)
        case c0 => rfl
        case c3 => unfold maxLen; omega
        case c4 => omega
        case c5 => simp; omega
        intro g6 c6 w6 hown6 hgrow hat hlt6
        have HR : Hid (ForRelW w ps who (.slice (some ⟨g6, 0, none⟩) ((ofWhoW who (ps.take k)).length + 1) c6) (.int .i64 ((k : Int) + 1)) w6) :=
          ⟨k + 1, by omega, by go_num, by rw [HYS.out, List.length_append, List.flatMap_append]; exact hown6, bgrown (below_trans HBN.out (below_new _ _)) (by simp; omega) hgrow HBL.out, .inr hf⟩
        clear hown6 hgrow hat hlt6
        go_wp2
        go_roundw
        case rel => first | exact HR.out | (have := HR.out; simpa using this)
        case measure => simp [intOf]; omega
    · obtain rfl : k = ps.length := by omega
      have HD : Hid (∀ v, wr.ownsRow w.heap.size 73 4 v (ofWhoW who (ps.take ps.length)).length ((ofWhoW who (ps.take ps.length)).flatMap Wai.cs) → ResW (waitsForV ps who) w (.returned v) wr) := by
        intro v hv
        rw [List.take_length] at hv
        rw [show waitsForV ps who = ofWhoW who ps by simp [waitsForV, hf]]
        obtain ⟨a', c', rfl, ho, -⟩ := ownR_of Wai.len hv
        exact ⟨a', c', rfl, ho, HB.out⟩
      go_wp2
      go_ret
      exact HD.out _ HW.out
end Go.Proofs.YtbgklakhelcgcaaGreat
namespace Go.Proofs.YtbgklakhelcgcaaGreat
open Go.ChangeShapes Go.WideShapes Go.ChangeAt Go.RowKit

/-- A block holds a ledger whose lists lie. -/
structure BoxL (w : World) (B : Nat) (b : Bok) (s : Spots) : Prop where
  book : BookAt w b s
  c0 : w.cell? ⟨B, 0, none⟩ = some (.slice s.fa b.folk.length s.fc)
  c1 : w.cell? ⟨B, 1, none⟩ = some (.slice s.ma b.mills.length s.mc)
  c2 : w.cell? ⟨B, 2, none⟩ = some (.slice s.pa b.parts.length s.pc)
  c3 : w.cell? ⟨B, 3, none⟩ = some (.slice s.wa b.waits.length s.wc)
theorem BoxL.lt {w : World} {B : Nat} {b : Bok} {s : Spots} (h : BoxL w B b s) : B < w.heap.size := at_lt h.c0
theorem BoxL.below {w w' : World} {B : Nat} {b : Bok} {s : Spots} (h : BoxL w B b s) (hb : Below w.heap.size w w') : BoxL w' B b s := by
  have k : ∀ o v, w.cell? ⟨B, o, none⟩ = some v → w'.cell? ⟨B, o, none⟩ = some v := fun o v hc => (hb.cell (p := ⟨B, o, none⟩) h.lt).trans hc
  exact ⟨h.book.below hb, k _ _ h.c0, k _ _ h.c1, k _ _ h.c2, k _ _ h.c3⟩
theorem BoxL.new {w : World} {b : Bok} {s : Spots} (h : BookAt w b s) (T : TypeId) : BoxL (w.alloc (.cells #[.slice s.fa b.folk.length s.fc, .slice s.ma b.mills.length s.mc, .slice s.pa b.parts.length s.pc, .slice s.wa b.waits.length s.wc] T)) w.heap.size b s := by
  have k : ∀ (o : Nat) v, (#[.slice s.fa b.folk.length s.fc, .slice s.ma b.mills.length s.mc, .slice s.pa b.parts.length s.pc, .slice s.wa b.waits.length s.wc] : Array Value)[o]? = some v → (w.alloc (.cells #[.slice s.fa b.folk.length s.fc, .slice s.ma b.mills.length s.mc, .slice s.pa b.parts.length s.pc, .slice s.wa b.waits.length s.wc] T)).cell? ⟨w.heap.size, o, none⟩ = some v := fun o v hv => by
    simp only [World.cell?, heap_alloc_new]; exact hv
  exact ⟨h.below (below_new _ _), k _ _ rfl, k _ _ rfl, k _ _ rfl, k _ _ rfl⟩

set_option maxHeartbeats 2000000 in
set_option maxRecDepth 100000 in
theorem iLedger_any {w : World} {b : Bok} {s : Spots} :
    Calls Tryz.prog 26 #[.agg #[.int .i64 b.season, .int .i64 b.supply, .int .i64 b.burnt, .int .i64 b.pot, .slice s.fa b.folk.length s.fc, .slice s.ma b.mills.length s.mc, .slice s.pa b.parts.length s.pc, .slice s.wa b.waits.length s.wc]] w fun e w' => e = .returned (.agg #[.slice s.fa b.folk.length s.fc, .slice s.ma b.mills.length s.mc, .slice s.pa b.parts.length s.pc, .slice s.wa b.waits.length s.wc]) ∧ Below w.heap.size w w' := by
  go_enter Tryz.func26, Tryz.ntmps26
  go_wp2
  refine bodyPost_ret (v := .agg #[.slice s.fa b.folk.length s.fc, .slice s.ma b.mills.length s.mc, .slice s.pa b.parts.length s.pc, .slice s.wa b.waits.length s.wc]) (by simp [results, Tryz.results26, go_sem]) rfl ⟨rfl, ?_⟩
  exact ((Below.refl _ _).alloc (Nat.le_refl _) _).alloc (by simp) _

set_option maxHeartbeats 2000000 in
set_option maxRecDepth 100000 in
theorem allOfA_any (x y z : Int) (B : Nat) (w : World)
    (h0 : w.cell? ⟨B, 0, none⟩ = some (.int .i64 x)) (h1 : w.cell? ⟨B, 1, none⟩ = some (.int .i64 y)) (h2 : w.cell? ⟨B, 2, none⟩ = some (.int .i64 z)) :
    Calls Tryz.prog 65 #[.func (Fn.func 66) #[] #[], .slice (some ⟨B, 0, none⟩) 3 3] w fun e w' => e = .returned (.bool (inB 0 1000000 x && (inB 0 1000000 y && inB 0 1000000 z))) ∧ w = w' := by
  cases hx : inB 0 1000000 x
  · go_enter Tryz.func65, Tryz.ntmps65
    go_wp2
    refine wp_loop_rounds 4 ?_
    rw [rounds_succ]
    go_wp2_with (go_at_call 66; refine (iAmountOk_any _ _).mono ?_; rintro e w' ⟨rfl, rfl⟩; rw [hx])
    go_ret
    exact ⟨rfl, rfl⟩
  cases hy : inB 0 1000000 y
  · go_enter Tryz.func65, Tryz.ntmps65
    go_wp2
    refine wp_loop_rounds 4 ?_
    rw [rounds_succ]
    go_wp2_with (go_at_call 66; refine (iAmountOk_any _ _).mono ?_; rintro e w' ⟨rfl, rfl⟩; rw [hx])
    rw [rounds_succ]
    go_wp2_with (go_at_call 66; refine (iAmountOk_any _ _).mono ?_; rintro e w' ⟨rfl, rfl⟩; rw [hy])
    go_ret
    exact ⟨rfl, rfl⟩
  cases hz : inB 0 1000000 z
  · go_enter Tryz.func65, Tryz.ntmps65
    go_wp2
    refine wp_loop_rounds 4 ?_
    rw [rounds_succ]
    go_wp2_with (go_at_call 66; refine (iAmountOk_any _ _).mono ?_; rintro e w' ⟨rfl, rfl⟩; rw [hx])
    rw [rounds_succ]
    go_wp2_with (go_at_call 66; refine (iAmountOk_any _ _).mono ?_; rintro e w' ⟨rfl, rfl⟩; rw [hy])
    rw [rounds_succ]
    go_wp2_with (go_at_call 66; refine (iAmountOk_any _ _).mono ?_; rintro e w' ⟨rfl, rfl⟩; rw [hz])
    go_ret
    exact ⟨rfl, rfl⟩
  · go_enter Tryz.func65, Tryz.ntmps65
    go_wp2
    refine wp_loop_rounds 4 ?_
    rw [rounds_succ]
    go_wp2_with (go_at_call 66; refine (iAmountOk_any _ _).mono ?_; rintro e w' ⟨rfl, rfl⟩; rw [hx])
    rw [rounds_succ]
    go_wp2_with (go_at_call 66; refine (iAmountOk_any _ _).mono ?_; rintro e w' ⟨rfl, rfl⟩; rw [hy])
    rw [rounds_succ]
    go_wp2_with (go_at_call 66; refine (iAmountOk_any _ _).mono ?_; rintro e w' ⟨rfl, rfl⟩; rw [hz])
    rw [rounds_succ]
    go_wp2
    go_ret
    exact ⟨rfl, rfl⟩
theorem allOfA_new (a b c : Int) (w : World) :
    Calls Tryz.prog 65 #[.func (Fn.func 66) #[] #[], .slice (some ⟨w.heap.size, 0, none⟩) 3 3] (w.alloc (.cells #[.int .i64 a, .int .i64 b, .int .i64 c] 2)) fun e w' => e = .returned (.bool (inB 0 1000000 a && (inB 0 1000000 b && inB 0 1000000 c))) ∧ w.alloc (.cells #[.int .i64 a, .int .i64 b, .int .i64 c] 2) = w' :=
  allOfA_any a b c w.heap.size _ (by go_simp) (by go_simp) (by go_simp)

set_option maxHeartbeats 2000000 in
set_option maxRecDepth 100000 in
theorem iRange_any {w : World} {b : Bok} {s : Spots} (h : BookAt w b s) :
    Calls Tryz.prog 27 #[.agg #[.int .i64 b.season, .int .i64 b.supply, .int .i64 b.burnt, .int .i64 b.pot, .slice s.fa b.folk.length s.fc, .slice s.ma b.mills.length s.mc, .slice s.pa b.parts.length s.pc, .slice s.wa b.waits.length s.wc]] w fun e w' => e = .returned (.bool (rangeB b)) ∧ Below w.heap.size w w' := by
  obtain ⟨W, hW⟩ : ∃ W, w.alloc (.cells #[.int .i64 b.season, .int .i64 b.supply, .int .i64 b.burnt, .int .i64 b.pot, .slice s.fa b.folk.length s.fc, .slice s.ma b.mills.length s.mc, .slice s.pa b.parts.length s.pc, .slice s.wa b.waits.length s.wc] 35) = W := ⟨_, rfl⟩
  have X0 := Lib.hid (BoxB.new h 35)
  have B0 := Lib.hid (below_new w (.cells #[.int .i64 b.season, .int .i64 b.supply, .int .i64 b.burnt, .int .i64 b.pot, .slice s.fa b.folk.length s.fc, .slice s.ma b.mills.length s.mc, .slice s.pa b.parts.length s.pc, .slice s.wa b.waits.length s.wc] 35))
  rw [hW] at X0 B0
  clear h
  have HR : Hid (rangeB b = (inB 0 1000 b.season && (inB 0 1000000 b.supply && (inB 0 1000000 b.burnt && inB 0 1000000 b.pot)))) := rfl
  have c0 := X0.out.c0
  have c1 := X0.out.c1
  have c2 := X0.out.c2
  have c3 := X0.out.c3
  go_enter Tryz.func27, Tryz.ntmps27
  go_wp2_with fail
  refine (within_any _ _ _).mono ?_
  rintro e w1 ⟨rfl, rfl⟩
  cases h1 : inB 0 1000 b.season
  · have HN := Lib.hid (show rangeB b = false from HR.out.trans (by rw [h1]; rfl))
    go_wp2
    go_ret
    exact ⟨by rw [HN.out]; rfl, B0.out⟩
  go_wp2_with fail
  refine (allOfA_new _ _ _ _).mono ?_
  rintro e w2 ⟨rfl, hw2⟩
  have B2 := Lib.hid (below_trans B0.out (below_new W (.cells #[.int .i64 b.supply, .int .i64 b.burnt, .int .i64 b.pot] 2)))
  rw [hw2] at B2
  clear hw2
  have HN := Lib.hid (show rangeB b = (inB 0 1000000 b.supply && (inB 0 1000000 b.burnt && inB 0 1000000 b.pot)) from HR.out.trans (by rw [h1]; rfl))
  go_wp2
  go_ret
  exact ⟨by rw [HN.out]; rfl, B2.out⟩

set_option maxHeartbeats 4000000 in
set_option maxRecDepth 100000 in
theorem iRight_any {w : World} {b : Bok} {s : Spots} (h : BookAt w b s) (hl : BLen b) (hz : BSized b) :
    Calls Tryz.prog 34 #[.agg #[.slice s.fa b.folk.length s.fc, .slice s.ma b.mills.length s.mc, .slice s.pa b.parts.length s.pc, .slice s.wa b.waits.length s.wc]] w fun e w' => e = .returned (.bool (rightsB b)) ∧ Below w.heap.size w w' := by
  have X0 := Lib.hid (BoxL.new h 55)
  have B0 := Lib.hid (below_new w (.cells #[.slice s.fa b.folk.length s.fc, .slice s.ma b.mills.length s.mc, .slice s.pa b.parts.length s.pc, .slice s.wa b.waits.length s.wc] 55))
  have HL := Lib.hid hl
  have HZ := Lib.hid hz
  clear h hl hz
  have HR : Hid (rightsB b = (folkB b.folk && (millsB b.mills && (partsB b.parts && waitsB b.waits)))) := rfl
  go_enter Tryz.func34, Tryz.ntmps34
  go_wp2_with fail
  refine (iFolkOk_any _ X0.out.book.folk HL.out.fl HZ.out.fs).mono ?_
  rintro e w1 ⟨rfl, hb1⟩
  have X1 := Lib.hid (X0.out.below hb1)
  have B1 := Lib.hid (below_trans B0.out hb1)
  clear X0 B0 hb1
  cases h1 : folkB b.folk
  · have HN := Lib.hid (show rightsB b = false from HR.out.trans (by rw [h1]; rfl))
    go_wp2
    go_ret
    exact ⟨by rw [HN.out]; rfl, B1.out⟩
  have c1 := X1.out.c1
  go_wp2_with fail
  refine (iMillsOk_any _ X1.out.book.mills (by have := HL.out.ml; omega) HZ.out.ms).mono ?_
  rintro e w2 ⟨rfl, hb2⟩
  have X2 := Lib.hid (X1.out.below hb2)
  have B2 := Lib.hid (below_trans B1.out hb2)
  clear X1 B1 hb2 c1
  cases h2 : millsB b.mills
  · have HN := Lib.hid (show rightsB b = false from HR.out.trans (by rw [h1, h2]; rfl))
    go_wp2
    go_ret
    exact ⟨by rw [HN.out]; rfl, B2.out⟩
  have c2 := X2.out.c2
  go_wp2_with fail
  refine (iPartsOk_any _ X2.out.book.parts (by have := HL.out.pl; omega) HZ.out.ps).mono ?_
  rintro e w3 ⟨rfl, hb3⟩
  have X3 := Lib.hid (X2.out.below hb3)
  have B3 := Lib.hid (below_trans B2.out hb3)
  clear X2 B2 hb3 c2
  cases h3 : partsB b.parts
  · have HN := Lib.hid (show rightsB b = false from HR.out.trans (by rw [h1, h2, h3]; rfl))
    go_wp2
    go_ret
    exact ⟨by rw [HN.out]; rfl, B3.out⟩
  have c3 := X3.out.c3
  go_wp2_with fail
  refine (iWaitsOk_any _ X3.out.book.waits (by have := HL.out.wl; omega) HZ.out.ws).mono ?_
  rintro e w4 ⟨rfl, hb4⟩
  have B4 := Lib.hid (below_trans B3.out hb4)
  have HN := Lib.hid (show rightsB b = waitsB b.waits from HR.out.trans (by rw [h1, h2, h3]; rfl))
  clear X3 B3 hb4 c3
  go_wp2
  go_ret
  exact ⟨by rw [HN.out]; rfl, B4.out⟩
end Go.Proofs.YtbgklakhelcgcaaGreat
namespace Go.Proofs.YtbgklakhelcgcaaGreat
open Go.ChangeShapes Go.WideShapes Go.ChangeAt Go.RowKit

theorem wup_le {ps : List Wai} (h : WUp ps ps.length) {j : Nat} : ∀ m (hm : j + 1 + m < ps.length), (ps[j]'(by omega)).ripe ≤ ps[j + 1 + m].ripe
  | 0, hm => h.2 j hm hm
  | m + 1, hm => Int.le_trans (wup_le h m (by omega)) (h.2 (j + 1 + m) hm hm)
theorem wup_pair {ps : List Wai} : WUp ps ps.length ↔ (∀ p ∈ ps, waitB p = true) ∧ ps.Pairwise (fun p q => p.ripe ≤ q.ripe) := by
  constructor
  · intro h
    refine ⟨fun p hp => ?_, ?_⟩
    · obtain ⟨k, hk, rfl⟩ := List.getElem_of_mem hp; exact h.1 k hk hk
    · rw [List.pairwise_iff_getElem]
      intro i j hi hj hij
      have := wup_le h (j := i) (j - (i + 1)) (by omega)
      simpa [show i + 1 + (j - (i + 1)) = j by omega] using this
  · rintro ⟨h1, h2⟩
    rw [List.pairwise_iff_getElem] at h2
    exact ⟨fun j hj _ => h1 _ (List.getElem_mem hj), fun j hj _ => h2 j (j + 1) (by omega) hj (by omega)⟩
theorem waits_pair {ps : List Wai} : waitsB ps = true ↔ ps.length ≤ 20 ∧ (∀ p ∈ ps, waitB p = true) ∧ ps.Pairwise (fun p q => p.ripe ≤ q.ripe) := by
  rw [← wup_pair]
  exact ⟨waits_true, fun h => waits_yes h.1 h.2⟩
theorem sumA_take {ps : List Wai} : ∀ k, k ≤ ps.length → sumA ps k = ((ps.take k).map Wai.amount).sum
  | 0, _ => by simp [sumA]
  | k + 1, hk => by
    rw [sumA, sumA_take k (by omega), List.take_succ_eq_append_getElem (by omega), List.map_append, List.sum_append, watn_eq (by omega)]
    simp
theorem amount_eq {ps : List Wai} (h : waitsB ps = true) : amountInV ps = (ps.map Wai.amount).sum := by
  rw [amountInV, if_pos h, sumA_take _ (Nat.le_refl _), List.take_length]
theorem amount_bd {ps : List Wai} (h : waitsB ps = true) : 0 ≤ amountInV ps ∧ amountInV ps ≤ 20000000 := by
  have h1 := waits_true h
  have h2 := sumA_bd h1.2 ps.length (Nat.le_refl _)
  rw [amountInV, if_pos h]
  omega

/-- One more waits: nothing else turns. -/
theorem waiting_more {ps : List Wai} {q : Wai} (h : waitingB ps q = true) :
    waitsB (waitingL ps q) = true ∧ (waitingL ps q).length = ps.length + 1 ∧ amountInV (waitingL ps q) = amountInV ps + q.amount := by
  have h0 := h
  simp only [waitingB, Bool.and_eq_true] at h
  obtain ⟨hf, hx⟩ := h
  have hL : waitingL ps q = putW ps q := by rw [waitingL, if_pos hf, if_pos h0]
  have hle := lowW_le ps q.ripe
  rw [hL]
  refine ⟨hx, by unfold putW; simp; omega, ?_⟩
  rw [amount_eq hx, amount_eq hf, putW]
  generalize lowW ps q.ripe = k
  conv => rhs; rw [← List.take_append_drop k ps]
  simp only [List.map_append, List.sum_append, List.map_cons, List.map_nil, List.sum_cons, List.sum_nil]
  omega

theorem part_sum (season : Int) : ∀ (ps : List Wai), ((laterOf season ps).map Wai.amount).sum + ((ripeOf season ps).map Wai.amount).sum = (ps.map Wai.amount).sum ∧ (laterOf season ps).length + (ripeOf season ps).length = ps.length
  | [] => by simp [laterOf, ripeOf]
  | p :: r => by
    have ih := part_sum season r
    unfold laterOf ripeOf at ih ⊢
    by_cases h : season < p.ripe
    · simp only [List.filter_cons, h, decide_true, Bool.not_true, if_true, Bool.false_eq_true, if_false, List.map_cons, List.sum_cons, List.length_cons]
      omega
    · simp only [List.filter_cons, h, decide_false, Bool.not_false, if_true, Bool.false_eq_true, if_false, List.map_cons, List.sum_cons, List.length_cons]
      omega
theorem sub_waits {ps qs : List Wai} (h : waitsB ps = true) (hs : qs.Sublist ps) : waitsB qs = true := by
  obtain ⟨h1, h2, h3⟩ := waits_pair.1 h
  exact waits_pair.2 ⟨Nat.le_trans hs.length_le h1, fun p hp => h2 p (hs.subset hp), h3.sublist hs⟩
/-- Nothing is lost. -/
theorem ripe_all {ps : List Wai} (h : waitsB ps = true) (season : Int) : waitsB (laterV ps season) = true ∧ waitsB (ripeV ps season) = true ∧ amountInV (laterV ps season) + amountInV (ripeV ps season) = amountInV ps ∧ (laterV ps season).length + (ripeV ps season).length = ps.length := by
  have e1 : laterV ps season = laterOf season ps := by rw [laterV, if_pos h]
  have e2 : ripeV ps season = ripeOf season ps := by rw [ripeV, if_pos h]
  have s1 : waitsB (laterOf season ps) = true := sub_waits h List.filter_sublist
  have s2 : waitsB (ripeOf season ps) = true := sub_waits h List.filter_sublist
  rw [e1, e2, amount_eq s1, amount_eq s2, amount_eq h]
  exact ⟨s1, s2, part_sum season ps⟩
theorem ripe_take (season : Int) : ∀ (ps : List Wai), ps.Pairwise (fun p q => p.ripe ≤ q.ripe) → ripeOf season ps = ps.take (ripeOf season ps).length
  | [], _ => by simp [ripeOf]
  | p :: r, h => by
    rw [List.pairwise_cons] at h
    by_cases hq : season < p.ripe
    · have hn : ripeOf season (p :: r) = [] := by
        unfold ripeOf
        rw [List.filter_eq_nil_iff]
        intro q hq2
        rcases List.mem_cons.1 hq2 with rfl | hm
        · simpa using hq
        · have := h.1 q hm
          simp; omega
      rw [hn]; simp
    · have ih := ripe_take season r h.2
      have he : ripeOf season (p :: r) = p :: ripeOf season r := by unfold ripeOf; simp [hq]
      rw [he, List.length_cons, List.take_succ_cons, ← ih]
/-- Ripe are the first ones, and none later. -/
theorem ripe_first (ps : List Wai) (season : Int) : ripeV ps season = ps.take (ripeV ps season).length ∧ ∀ i (h : i < (ripeV ps season).length), (ripeV ps season)[i].ripe ≤ season := by
  cases hf : waitsB ps
  · have e : ripeV ps season = [] := by simp [ripeV, hf]
    rw [e]; simp
  · have e : ripeV ps season = ripeOf season ps := by rw [ripeV, if_pos hf]
    rw [e]
    refine ⟨ripe_take season ps (waits_pair.1 hf).2.2, fun i h => ?_⟩
    have hm := List.getElem_mem h
    generalize (ripeOf season ps)[i] = q at hm ⊢
    unfold ripeOf at hm
    rw [List.mem_filter] at hm
    have := hm.2
    simp at this; omega

/-- What waits of that mill. -/
def mineW (mill : ByteArray) (p : Wai) : Int := if (p.mill.toList == mill.toList) = true then p.amount else 0
def mineOf (mill : ByteArray) (ps : List Wai) : Int := (ps.map (mineW mill)).sum
theorem mine_next {ps : List Wai} {mill : ByteArray} {k : Nat} (h : k < ps.length) : mineOf mill (ps.take (k + 1)) = mineOf mill (ps.take k) + mineW mill ps[k] := by
  unfold mineOf
  rw [List.take_succ_eq_append_getElem h, List.map_append, List.sum_append]
  simp
theorem mine_bd {ps : List Wai} (h : WUp ps ps.length) (mill : ByteArray) : ∀ k, k ≤ ps.length → 0 ≤ mineOf mill (ps.take k) ∧ mineOf mill (ps.take k) ≤ 1000000 * k
  | 0, _ => by simp [mineOf]
  | k + 1, hk => by
    have h1 := mine_bd h mill k (by omega)
    have h2 := wait_bd (h.1 k (by omega) (by omega))
    rw [mine_next (by omega)]
    unfold mineW
    split <;> omega
theorem fine_sum {mill : ByteArray} {pc : Int} (hp : inB 0 100 pc = true) : ∀ (ps : List Wai), (∀ p ∈ ps, waitB p = true) → ((finOf mill pc ps).map Wai.amount).sum + finSum mill pc ps = (ps.map Wai.amount).sum ∧ 100 * finSum mill pc ps ≤ pc * mineOf mill ps ∧ (pc = 0 → finSum mill pc ps = 0)
  | [], _ => by simp [finOf, finSum, mineOf]
  | p :: r, h => by
    obtain ⟨i1, i2, i3⟩ := fine_sum (mill := mill) hp r (fun q hq => h q (List.mem_cons_of_mem _ hq))
    have hw := h p (by simp)
    have hb := wait_bd hw
    have hc := cut_bd (mill := mill) hw hp
    have hpb := inB_true hp
    have hs : finSum mill pc (p :: r) = cutW mill pc p + finSum mill pc r := by simp [finSum]
    have hm : mineOf mill (p :: r) = mineW mill p + mineOf mill r := by simp [mineOf]
    have hcut : 100 * cutW mill pc p ≤ pc * mineW mill p ∧ (pc = 0 → cutW mill pc p = 0) := by
      unfold cutW mineW
      split
      · rw [partV, if_pos (by rw [hp, inB_of (by omega) (by omega)]; rfl)]
        constructor
        · rw [Int.mul_comm pc]
          have := Int.mul_ediv_self_le (x := p.amount * pc) (k := 100) (by omega)
          omega
        · rintro rfl; simp
      · simp
    refine ⟨?_, ?_, ?_⟩
    · rw [hs]
      by_cases hz : 0 < (fineW mill pc p).amount
      · have e : finOf mill pc (p :: r) = fineW mill pc p :: finOf mill pc r := by unfold finOf; simp [hz]
        rw [e]
        simp only [List.map_cons, List.sum_cons]
        have : (fineW mill pc p).amount = p.amount - cutW mill pc p := rfl
        omega
      · have e : finOf mill pc (p :: r) = finOf mill pc r := by unfold finOf; simp [hz]
        rw [e]
        simp only [List.map_cons, List.sum_cons]
        have : (fineW mill pc p).amount = p.amount - cutW mill pc p := rfl
        omega
    · rw [hs, hm, Int.mul_add, Int.mul_add]
      have := hcut.1
      omega
    · intro hp0
      rw [hs, hcut.2 hp0, i3 hp0]; simp
/-- What is fined is less, by no more than the percent. -/
theorem fined_less {ps : List Wai} {mill : ByteArray} {pc : Int} (h : finedB ps pc = true) :
    waitsB (finedL ps mill pc) = true ∧ amountInV (finedL ps mill pc) + finedN ps mill pc = amountInV ps ∧ 100 * finedN ps mill pc ≤ pc * mineOf mill ps ∧ (pc = 0 → finedN ps mill pc = 0) ∧ 0 ≤ finedN ps mill pc := by
  have h0 := h
  simp only [finedB, Bool.and_eq_true] at h
  obtain ⟨hf, hp⟩ := h
  have e1 : finedL ps mill pc = finOf mill pc ps := by rw [finedL, if_pos h0]
  have e2 : finedN ps mill pc = finSum mill pc ps := by rw [finedN, if_pos h0]
  obtain ⟨w1, w2, w3⟩ := waits_pair.1 hf
  have hx : waitsB (finOf mill pc ps) = true := by
    refine waits_pair.2 ⟨Nat.le_trans (finOf_le mill pc ps) w1, fun q hq => ?_, ?_⟩
    · unfold finOf at hq
      rw [List.mem_filter, List.mem_map] at hq
      obtain ⟨⟨p, hpm, rfl⟩, hpos⟩ := hq
      have hw := w2 p hpm
      have hc := cut_bd (mill := mill) hw hp
      have hb := wait_bd hw
      have hpos' : 0 < p.amount - cutW mill pc p := by simpa [fineW] using hpos
      simp only [waitB, Bool.and_eq_true] at hw ⊢
      exact ⟨hw.1, hw.2.1, inB_of (by show 1 ≤ p.amount - cutW mill pc p; omega) (by show p.amount - cutW mill pc p ≤ 1000000; omega), hw.2.2.2⟩
    · unfold finOf
      refine List.Pairwise.filter _ ?_
      rw [List.pairwise_map]
      exact w3
  obtain ⟨s1, s2, s3⟩ := fine_sum (mill := mill) hp ps w2
  have hb := fin_bd (mill := mill) (waits_true hf).2 hp ps.length (Nat.le_refl _)
  rw [List.take_length] at hb
  rw [e1, e2, amount_eq hx, amount_eq hf]
  exact ⟨hx, s1, s2, s3, hb.1⟩
theorem fined_not {ps : List Wai} {mill : ByteArray} {pc : Int} (h : finedB ps pc = false) : finedN ps mill pc = -1 ∧ finedL ps mill pc = [] := by
  rw [finedN, finedL, if_neg (by rw [h]; decide), if_neg (by rw [h]; decide)]
  exact ⟨rfl, rfl⟩
end Go.Proofs.YtbgklakhelcgcaaGreat
namespace Go.Proofs.YtbgklakhelcgcaaGreat
open Go.ChangeShapes Go.WideShapes Go.ChangeAt Go.RowKit

set_option maxHeartbeats 1000000 in
set_option maxRecDepth 100000 in
theorem iFree_any {w : World} {a : Option Addr} {ps : List Pur} (cap : Nat) (h : Purs w a ps) (hl : ps.length ≤ 1048576) (hs : Sized (pnames ps)) :
    Calls Tryz.prog 35 #[.slice a ps.length cap] w fun e w' => e = .returned (.int .i64 (freeInV ps)) ∧ Below w.heap.size w w' := by
  have H := Lib.hid h
  have HS := Lib.hid hs
  clear h hs
  go_enter Tryz.func35, Tryz.ntmps35
  go_wp2_with (go_at_call 77; refine (iFreeIn_any _ H.out hl HS.out).mono ?_; rintro e w1 ⟨rfl, hb1⟩)
  go_ret
  exact ⟨rfl, hb1⟩

set_option maxHeartbeats 1000000 in
set_option maxRecDepth 100000 in
theorem iStaked_any {w : World} {a : Option Addr} {ps : List Mil} (cap : Nat) (h : Recs Mil.cs w a ps) (hl : ps.length ≤ 9223372036854775807) (hs : Sized (mnames ps)) :
    Calls Tryz.prog 36 #[.slice a ps.length cap] w fun e w' => e = .returned (.int .i64 (stakesV ps)) ∧ Below w.heap.size w w' := by
  have H := Lib.hid h
  have HS := Lib.hid hs
  clear h hs
  go_enter Tryz.func36, Tryz.ntmps36
  go_wp2_with (go_at_call 78; refine (iStakesIn_any _ H.out hl HS.out).mono ?_; rintro e w1 ⟨rfl, hb1⟩)
  go_ret
  exact ⟨rfl, hb1⟩

set_option maxHeartbeats 1000000 in
set_option maxRecDepth 100000 in
theorem iWaitingM_any {w : World} {a : Option Addr} {ps : List Wai} (cap : Nat) (h : Recs Wai.cs w a ps) (hl : ps.length ≤ 9223372036854775807) (hs : WSized ps) :
    Calls Tryz.prog 37 #[.slice a ps.length cap] w fun e w' => e = .returned (.int .i64 (amountInV ps)) ∧ Below w.heap.size w w' := by
  have H := Lib.hid h
  have HS := Lib.hid hs
  clear h hs
  go_enter Tryz.func37, Tryz.ntmps37
  go_wp2_with (go_at_call 79; refine (iAmountIn_any _ H.out hl HS.out).mono ?_; rintro e w1 ⟨rfl, hb1⟩)
  go_ret
  exact ⟨rfl, hb1⟩

set_option maxHeartbeats 1000000 in
set_option maxRecDepth 100000 in
theorem iSharesInM_any {w : World} {a : Option Addr} {ps : List Par} (cap : Nat) (mill : ByteArray) (h : Recs Par.cs w a ps) (hl : ps.length ≤ 9223372036854775807) (hs : PSized ps) :
    Calls Tryz.prog 68 #[.slice a ps.length cap, .string mill] w fun e w' => e = .returned (.int .i64 (sharesInV ps mill)) ∧ Below w.heap.size w w' := by
  have H := Lib.hid h
  have HS := Lib.hid hs
  clear h hs
  go_enter Tryz.func68, Tryz.ntmps68
  go_wp2_with (go_at_call 91; refine (iSharesIn_any _ _ H.out hl HS.out).mono ?_; rintro e w1 ⟨rfl, hb1⟩)
  go_ret
  exact ⟨rfl, hb1⟩

set_option maxHeartbeats 1000000 in
set_option maxRecDepth 100000 in
theorem iFreeOfM_any {w : World} {a : Option Addr} {ps : List Pur} (cap : Nat) (s : ByteArray) (h : Purs w a ps) (hl : ps.length ≤ 1048576) (hs : Sized (pnames ps)) :
    Calls Tryz.prog 42 #[.slice a ps.length cap, .string s] w fun e w' => e = .returned (.int .i64 (freeOfV ps s)) ∧ Below w.heap.size w w' := by
  have H := Lib.hid h
  have HS := Lib.hid hs
  clear h hs
  go_enter Tryz.func42, Tryz.ntmps42
  go_wp2_with (go_at_call 82; refine (iFreeOf_any _ _ H.out hl HS.out).mono ?_; rintro e w1 ⟨rfl, hb1⟩)
  go_ret
  exact ⟨rfl, hb1⟩

theorem has_free {ps : List Pur} (s : ByteArray) (hf : folkB ps = true) : (freeOfV ps s < 0) = (placeV (pnames ps) s < 0) := by
  by_cases hp : 0 ≤ placeV (pnames ps) s
  · obtain ⟨k, e, hk, -⟩ := place_hit hp
    rw [len_pn] at hk
    have h1 := freeOf_in hf e hk
    have h2 := inB_bd ((folk_true hf).2.1 k hk hk)
    rw [h1, e]
    simp only [eq_iff_iff]
    omega
  · rw [freeOf_out hp]
    simp only [eq_iff_iff]
    omega

set_option maxHeartbeats 1000000 in
set_option maxRecDepth 100000 in
theorem iHasPurse_any {w : World} {a : Option Addr} {ps : List Pur} (cap : Nat) (s : ByteArray) (h : Purs w a ps) (hl : ps.length ≤ 1048576) (hs : Sized (pnames ps)) (hf : folkB ps = true) :
    Calls Tryz.prog 41 #[.slice a ps.length cap, .string s] w fun e w' => e = .returned (.bool (decide (0 ≤ placeV (pnames ps) s))) ∧ Below w.heap.size w w' := by
  have H := Lib.hid h
  have HS := Lib.hid hs
  have HF := Lib.hid (has_free s hf)
  clear h hs hf
  go_enter Tryz.func41, Tryz.ntmps41
  go_wp2_with fail
  refine (iFreeOf_any _ _ H.out hl HS.out).mono ?_
  rintro e w1 ⟨rfl, hb1⟩
  obtain ⟨q, hq⟩ : ∃ q, placeV (pnames ps) s = q := ⟨_, rfl⟩
  obtain ⟨v, hv⟩ : ∃ v, freeOfV ps s = v := ⟨_, rfl⟩
  rw [hq, hv] at HF
  have HQ := Lib.hid hq
  rw [hv]
  clear hq hv
  have HD := Lib.hid (show decide (0 ≤ q) = decide (0 ≤ v) by have := HF.out; rw [eq_iff_iff] at this; exact decide_eq_decide.2 (by omega))
  go_wp2
  go_ret
  exact ⟨by rw [HQ.out, HD.out]; rfl, hb1⟩

set_option maxHeartbeats 1000000 in
set_option maxRecDepth 100000 in
theorem iHasMill_any {w : World} {a : Option Addr} {ms : List Mil} (cap : Nat) (s : ByteArray) (h : Recs Mil.cs w a ms) (hl : ms.length ≤ 9223372036854775807) (hs : Sized (mnames ms)) :
    Calls Tryz.prog 90 #[.slice a ms.length cap, .string s] w fun e w' => e = .returned (.bool (millInB ms s)) ∧ Below w.heap.size w w' := by
  have H := Lib.hid h
  have HS := Lib.hid hs
  clear h hs
  obtain ⟨m, HM⟩ : ∃ x, Hid (millInV ms s = x) := ⟨_, Lib.hid rfl⟩
  go_enter Tryz.func90, Tryz.ntmps90
  go_wp2_with fail
  refine (iMillIn_any _ _ H.out hl HS.out).mono ?_
  rw [HM.out]
  rintro e w1 ⟨rfl, hb1⟩
  have B1 := Lib.hid hb1
  clear hb1
  go_wp2
  go_ret
  exact ⟨rfl, below_trans B1.out (below_new _ _)⟩

set_option maxHeartbeats 2000000 in
set_option maxRecDepth 100000 in
theorem iKnows_any {w : World} {b : Bok} {s : Spots} (who mill : ByteArray) (h : BookAt w b s) (hl : BLen b) (hz : BSized b) (hf : folkB b.folk = true) (hm : millsB b.mills = true) :
    Calls Tryz.prog 67 #[.agg #[.slice s.fa b.folk.length s.fc, .slice s.ma b.mills.length s.mc, .slice s.pa b.parts.length s.pc, .slice s.wa b.waits.length s.wc], .string who, .string mill] w fun e w' => e = .returned (.bool (knownB b who mill)) ∧ Below w.heap.size w w' := by
  have X0 := Lib.hid (BoxL.new h 55)
  have B0 := Lib.hid (below_new w (.cells #[.slice s.fa b.folk.length s.fc, .slice s.ma b.mills.length s.mc, .slice s.pa b.parts.length s.pc, .slice s.wa b.waits.length s.wc] 55))
  have HL := Lib.hid hl
  have HZ := Lib.hid hz
  have HF := Lib.hid hf
  have HK : Hid (knownB b who mill = (decide (0 ≤ placeV (pnames b.folk) who) && millInB b.mills mill)) := by
    simp [Hid, knownB, millInB, hm]
  clear h hl hz hf hm
  go_enter Tryz.func67, Tryz.ntmps67
  go_wp2_with fail
  refine (iHasPurse_any _ _ X0.out.book.folk HL.out.fl HZ.out.fs HF.out).mono ?_
  rintro e w1 ⟨rfl, hb1⟩
  have X1 := Lib.hid (X0.out.below hb1)
  have B1 := Lib.hid (below_trans B0.out hb1)
  clear X0 B0 hb1
  obtain ⟨d, hd⟩ : ∃ d, decide (0 ≤ placeV (pnames b.folk) who) = d := ⟨_, rfl⟩
  rw [hd] at HK
  rw [hd]
  clear hd
  cases d
  · go_wp2
    go_ret
    exact ⟨by rw [HK.out]; rfl, B1.out⟩
  have c1 := X1.out.c1
  go_wp2_with fail
  refine (iHasMill_any _ _ X1.out.book.mills (by have := HL.out.ml; omega) HZ.out.ms).mono ?_
  rintro e w2 ⟨rfl, hb2⟩
  have B2 := Lib.hid (below_trans B1.out hb2)
  clear X1 B1 hb2 c1
  go_wp2
  go_ret
  exact ⟨by rw [HK.out]; rfl, B2.out⟩

/-- All that are named are there. -/
noncomputable def knowsB (b : Bok) : Bool := @decide (KnowsP b b.parts.length ∧ KnowsW b b.waits.length) (Classical.propDecidable _)
theorem knows_true {b : Bok} (h : knowsB b = true) : KnowsP b b.parts.length ∧ KnowsW b b.waits.length := by
  unfold knowsB at h; exact @of_decide_eq_true _ (Classical.propDecidable _) h
theorem knows_yes {b : Bok} (h1 : KnowsP b b.parts.length) (h2 : KnowsW b b.waits.length) : knowsB b = true := by
  unfold knowsB; exact @decide_eq_true _ (Classical.propDecidable _) ⟨h1, h2⟩
theorem knows_no {b : Bok} (h : ¬ (KnowsP b b.parts.length ∧ KnowsW b b.waits.length)) : knowsB b = false := by
  unfold knowsB; exact @decide_eq_false _ (Classical.propDecidable _) h
theorem knows_p {b : Bok} {k : Nat} (hk : k < b.parts.length) (h : knownB b b.parts[k].who b.parts[k].mill = false) : knowsB b = false :=
  knows_no fun ⟨h1, _⟩ => by rw [h1 k hk hk] at h; cases h
theorem knows_w {b : Bok} {k : Nat} (hk : k < b.waits.length) (h : knownB b b.waits[k].who b.waits[k].mill = false) : knowsB b = false :=
  knows_no fun ⟨_, h1⟩ => by rw [h1 k hk hk] at h; cases h
/-- All shares are held. -/
noncomputable def heldB (b : Bok) : Bool := @decide (HeldM b b.mills.length) (Classical.propDecidable _)
theorem heldM_true {b : Bok} (h : heldB b = true) : HeldM b b.mills.length := by
  unfold heldB at h; exact @of_decide_eq_true _ (Classical.propDecidable _) h
theorem heldM_yes {b : Bok} (h1 : HeldM b b.mills.length) : heldB b = true := by
  unfold heldB; exact @decide_eq_true _ (Classical.propDecidable _) h1
theorem heldM_no {b : Bok} {k : Nat} (hk : k < b.mills.length) (h : sharesInV b.parts b.mills[k].name ≠ b.mills[k].shares) : heldB b = false := by
  unfold heldB; exact @decide_eq_false _ (Classical.propDecidable _) (fun h1 => h (h1 k hk hk))
theorem there_both (b : Bok) : thereB b = (knowsB b && heldB b) := by
  cases h1 : knowsB b
  · cases h2 : thereB b
    · rfl
    · have := there_true h2
      rw [knows_yes this.1 this.2.1] at h1; cases h1
  · cases h3 : heldB b
    · cases h2 : thereB b
      · rfl
      · have := there_true h2
        rw [heldM_yes this.2.2] at h3; cases h3
    · have a := knows_true h1
      rw [there_yes a.1 a.2 (heldM_true h3)]; rfl

set_option maxHeartbeats 8000000 in
set_option maxRecDepth 100000 in
theorem iKnowsAll_any {w : World} {b : Bok} {s : Spots} (h : BookAt w b s) (hl : BLen b) (hz : BSized b) (hf : folkB b.folk = true) (hm : millsB b.mills = true) :
    Calls Tryz.prog 28 #[.agg #[.slice s.fa b.folk.length s.fc, .slice s.ma b.mills.length s.mc, .slice s.pa b.parts.length s.pc, .slice s.wa b.waits.length s.wc]] w fun e w' => e = .returned (.bool (knowsB b)) ∧ Below w.heap.size w w' := by
  obtain ⟨W, hW⟩ : ∃ W, w.alloc (.cells #[.slice s.fa b.folk.length s.fc, .slice s.ma b.mills.length s.mc, .slice s.pa b.parts.length s.pc, .slice s.wa b.waits.length s.wc] 55) = W := ⟨_, rfl⟩
  have X0 := Lib.hid (BoxL.new h 55)
  have B0 := Lib.hid (below_new w (.cells #[.slice s.fa b.folk.length s.fc, .slice s.ma b.mills.length s.mc, .slice s.pa b.parts.length s.pc, .slice s.wa b.waits.length s.wc] 55))
  rw [hW] at X0 B0
  have HL := Lib.hid hl
  have HZ := Lib.hid hz
  have HF := Lib.hid hf
  have HM := Lib.hid hm
  have l3 := hl.pl
  have l4 := hl.wl
  clear h hl hz hf hm
  have c2 := X0.out.c2
  cases s with | mk fa fc ma mc pa pc wa wc =>
  dsimp only at c2 hW ⊢
  go_enter Tryz.func28, Tryz.ntmps28
  go_wp2
  clear c2
  go_loopw [10] (fun i w' => ∃ k : Nat, k ≤ b.parts.length ∧ i = .int .i64 k ∧ Below W.heap.size W w' ∧ KnowsP b k) (fun i _ => b.parts.length - (intOf i).toNat)
  case atStart => exact ⟨0, Nat.zero_le _, rfl, Below.refl _ _, KnowsP.zero _⟩
  case round =>
    obtain ⟨k, hk, rfl, hb, hu⟩ := hrel
    have X := Lib.hid (X0.out.below hb)
    have BB := Lib.hid (below_trans B0.out hb)
    have HB := Lib.hid hb
    have HU := Lib.hid hu
    clear hb hu
    by_cases hlt : k < b.parts.length
    · obtain ⟨p, off, ep, hlb, d0, d1, d2⟩ := Par.at X.out.book.parts k hlt
      dsimp only at ep
      subst ep
      obtain ⟨V, hV⟩ : ∃ V, wr.alloc (.cells #[.string b.parts[k].who, .string b.parts[k].mill, .int .i64 b.parts[k].shares] 67) = V := ⟨_, rfl⟩
      have BV := Lib.hid (below_new wr (.cells #[.string b.parts[k].who, .string b.parts[k].mill, .int .i64 b.parts[k].shares] 67))
      have RV := Lib.hid (RecAt.new Par.cs wr b.parts[k] 67)
      rw [hV] at BV
      rw [show wr.alloc (.cells (b.parts[k].cs).toArray 67) = V from hV] at RV
      have XV := Lib.hid (X.out.below BV.out)
      have HBV := Lib.hid (below_trans HB.out BV.out)
      have BBV := Lib.hid (below_trans BB.out BV.out)
      have r0 := RV.out 0 _ rfl
      have r1 := RV.out 1 _ rfl
      have x0 := XV.out.c0
      have x1 := XV.out.c1
      have x2 := XV.out.c2
      have x3 := XV.out.c3
      dsimp only at x0 x1 x2 x3
      clear hlb
      go_wp2_with fail
      refine (iKnows_any _ _ XV.out.book HL.out HZ.out HF.out HM.out).mono ?_
      rintro e w3 ⟨rfl, hb3⟩
      cases hq : knownB b b.parts[k].who b.parts[k].mill
      · have HN := Lib.hid (knows_p hlt hq)
        have HB3 := Lib.hid (below_trans BBV.out hb3)
        clear hb3
        go_wp2
        go_ret
        exact ⟨by rw [HN.out]; rfl, HB3.out⟩
      have HN := Lib.hid (HU.out.succ hlt hq)
      have HB3 := Lib.hid (below_trans HBV.out hb3)
      clear hb3
      go_wp2
      go_roundw
      case rel => exact ⟨k + 1, by omega, by go_num, HB3.out, HN.out⟩
      case measure => simp [intOf]; omega
    obtain rfl : k = b.parts.length := by omega
    have KP := HU
    have x3 := X.out.c3
    dsimp only at x3
    clear HU hlt
    go_wp2
    go_loopw [25] (fun i w' => ∃ k : Nat, k ≤ b.waits.length ∧ i = .int .i64 k ∧ Below W.heap.size W w' ∧ KnowsW b k) (fun i _ => b.waits.length - (intOf i).toNat)
    case atStart => exact ⟨0, Nat.zero_le _, rfl, HB.out, KnowsW.zero _⟩
    case round =>
      obtain ⟨k, hk, rfl, hb, hu⟩ := hrel
      clear X HB BB x3
      have X := Lib.hid (X0.out.below hb)
      have BB := Lib.hid (below_trans B0.out hb)
      have HB := Lib.hid hb
      have HU := Lib.hid hu
      clear hb hu
      by_cases hlt : k < b.waits.length
      · obtain ⟨p, off, ep, hlb, d0, d1, d2, d3⟩ := Wai.at X.out.book.waits k hlt
        dsimp only at ep
        subst ep
        obtain ⟨V, hV⟩ : ∃ V, wr.alloc (.cells #[.string b.waits[k].who, .string b.waits[k].mill, .int .i64 b.waits[k].amount, .int .i64 b.waits[k].ripe] 73) = V := ⟨_, rfl⟩
        have BV := Lib.hid (below_new wr (.cells #[.string b.waits[k].who, .string b.waits[k].mill, .int .i64 b.waits[k].amount, .int .i64 b.waits[k].ripe] 73))
        have RV := Lib.hid (RecAt.new Wai.cs wr b.waits[k] 73)
        rw [hV] at BV
        rw [show wr.alloc (.cells (b.waits[k].cs).toArray 73) = V from hV] at RV
        have XV := Lib.hid (X.out.below BV.out)
        have HBV := Lib.hid (below_trans HB.out BV.out)
        have BBV := Lib.hid (below_trans BB.out BV.out)
        have r0 := RV.out 0 _ rfl
        have r1 := RV.out 1 _ rfl
        have x0 := XV.out.c0
        have x1 := XV.out.c1
        have x2 := XV.out.c2
        have x3 := XV.out.c3
        dsimp only at x0 x1 x2 x3
        clear hlb
        go_wp2_with fail
        refine (iKnows_any _ _ XV.out.book HL.out HZ.out HF.out HM.out).mono ?_
        rintro e w3 ⟨rfl, hb3⟩
        cases hq : knownB b b.waits[k].who b.waits[k].mill
        · have HN := Lib.hid (knows_w hlt hq)
          have HB3 := Lib.hid (below_trans BBV.out hb3)
          clear hb3
          go_wp2
          go_ret
          exact ⟨by rw [HN.out]; rfl, HB3.out⟩
        have HN := Lib.hid (HU.out.succ hlt hq)
        have HB3 := Lib.hid (below_trans HBV.out hb3)
        clear hb3
        go_wp2
        go_roundw
        case rel => exact ⟨k + 1, by omega, by go_num, HB3.out, HN.out⟩
        case measure => simp [intOf]; omega
      obtain rfl : k = b.waits.length := by omega
      have HN := Lib.hid (knows_yes KP.out HU.out)
      go_wp2
      go_ret
      exact ⟨by rw [HN.out]; rfl, BB.out⟩
end Go.Proofs.YtbgklakhelcgcaaGreat
namespace Go.Proofs.YtbgklakhelcgcaaGreat
open Go.ChangeShapes Go.WideShapes Go.ChangeAt Go.RowKit

set_option maxHeartbeats 8000000 in
set_option maxRecDepth 100000 in
theorem iAllHeld_any {w : World} {b : Bok} {s : Spots} (h : BookAt w b s) (hl : BLen b) (hz : BSized b) :
    Calls Tryz.prog 29 #[.agg #[.slice s.fa b.folk.length s.fc, .slice s.ma b.mills.length s.mc, .slice s.pa b.parts.length s.pc, .slice s.wa b.waits.length s.wc]] w fun e w' => e = .returned (.bool (heldB b)) ∧ Below w.heap.size w w' := by
  obtain ⟨W, hW⟩ : ∃ W, w.alloc (.cells #[.slice s.fa b.folk.length s.fc, .slice s.ma b.mills.length s.mc, .slice s.pa b.parts.length s.pc, .slice s.wa b.waits.length s.wc] 55) = W := ⟨_, rfl⟩
  have X0 := Lib.hid (BoxL.new h 55)
  have B0 := Lib.hid (below_new w (.cells #[.slice s.fa b.folk.length s.fc, .slice s.ma b.mills.length s.mc, .slice s.pa b.parts.length s.pc, .slice s.wa b.waits.length s.wc] 55))
  rw [hW] at X0 B0
  have HL := Lib.hid hl
  have HZ := Lib.hid hz
  have l2 := hl.ml
  have l3 := hl.pl
  clear h hl hz
  have c1 := X0.out.c1
  cases s with | mk fa fc ma mc pa pc wa wc =>
  dsimp only at c1 hW ⊢
  go_enter Tryz.func29, Tryz.ntmps29
  go_wp2
  clear c1
  go_loopw [8] (fun i w' => ∃ k : Nat, k ≤ b.mills.length ∧ i = .int .i64 k ∧ Below W.heap.size W w' ∧ HeldM b k) (fun i _ => b.mills.length - (intOf i).toNat)
  case atStart => exact ⟨0, Nat.zero_le _, rfl, Below.refl _ _, HeldM.zero _⟩
  case round =>
    obtain ⟨k, hk, rfl, hb, hu⟩ := hrel
    have X := Lib.hid (X0.out.below hb)
    have BB := Lib.hid (below_trans B0.out hb)
    have HB := Lib.hid hb
    have HU := Lib.hid hu
    clear hb hu
    by_cases hlt : k < b.mills.length
    · obtain ⟨p, off, ep, hlb, d0, d1, d2, d3, d4⟩ := Mil.at X.out.book.mills k hlt
      dsimp only at ep
      subst ep
      obtain ⟨V, hV⟩ : ∃ V, wr.alloc (.cells #[.string b.mills[k].name, .int .i64 b.mills[k].stake, .int .i64 b.mills[k].shares, .int .i64 b.mills[k].cut, .bool b.mills[k].shut] 70) = V := ⟨_, rfl⟩
      have BV := Lib.hid (below_new wr (.cells #[.string b.mills[k].name, .int .i64 b.mills[k].stake, .int .i64 b.mills[k].shares, .int .i64 b.mills[k].cut, .bool b.mills[k].shut] 70))
      have RV := Lib.hid (RecAt.new Mil.cs wr b.mills[k] 70)
      rw [hV] at BV
      rw [show wr.alloc (.cells (b.mills[k].cs).toArray 70) = V from hV] at RV
      have XV := Lib.hid (X.out.below BV.out)
      have HBV := Lib.hid (below_trans HB.out BV.out)
      have BBV := Lib.hid (below_trans BB.out BV.out)
      have g0 := Grow.cell (RV.out 0 _ rfl)
      have g2 := Grow.cell (RV.out 2 _ rfl)
      have x2 := XV.out.c2
      dsimp only at x2
      have e2 := Grow.cell x2
      clear hlb x2
      obtain ⟨v, hv⟩ : ∃ q, sharesInV b.parts b.mills[k].name = q := ⟨_, rfl⟩
      by_cases n1 : b.mills[k].shares = v
      · have HN := Lib.hid (HU.out.succ hlt (hv.trans n1.symm))
        have hd1 : (b.mills[k].shares != v) = false := by simp [n1]
        have HV := Lib.hid hv
        clear hv n1
        go_wp2
        refine wp_region_grow (by kernel_rfl) (by kernel_rfl) ?_
        repeat (go_big_quiet_step (first | (go_at_call 68; exact grow_call (int_is HV.out) (iSharesInM_any _ _ (XV.out.book.parts.below (Grow.ok _)) (by omega) HZ.out.ps))))
        refine wpQuiet_nil ?_
        intro _ hw'
        obtain ⟨gq, rfl⟩ := hw'
        have HB2 := Lib.hid (below_trans HBV.out gq.ok)
        go_wp2
        go_roundw
        case rel => exact ⟨k + 1, by omega, by go_num, HB2.out, HN.out⟩
        case measure => simp [intOf]; omega
      · have HN := Lib.hid (heldM_no hlt (fun e => n1 (e.symm.trans hv)))
        have hd1 : (b.mills[k].shares != v) = true := by simpa using n1
        have HV := Lib.hid hv
        clear hv
        go_wp2
        refine wp_region_grow (by kernel_rfl) (by kernel_rfl) ?_
        repeat (go_big_quiet_step (first | (go_at_call 68; exact grow_call (int_is HV.out) (iSharesInM_any _ _ (XV.out.book.parts.below (Grow.ok _)) (by omega) HZ.out.ps))))
        refine wpQuiet_nil ?_
        intro _ hw'
        obtain ⟨gq, rfl⟩ := hw'
        have HB2 := Lib.hid (below_trans BBV.out gq.ok)
        go_wp2
        go_ret
        exact ⟨by rw [HN.out]; rfl, HB2.out⟩
    obtain rfl : k = b.mills.length := by omega
    have HN := Lib.hid (heldM_yes HU.out)
    go_wp2
    go_ret
    exact ⟨by rw [HN.out]; rfl, BB.out⟩

theorem lists_range {b : Bok} (h : rangeB b = false) : listsB b = false := by simp [listsB, h]
theorem lists_rights {b : Bok} (h : rightsB b = false) : listsB b = false := by simp [listsB, h]
theorem lists_both {b : Bok} (h : rightsB b = true) (h2 : rangeB b = true) : listsB b = true := by simp [listsB, h, h2]
theorem rights_all {b : Bok} (h : listsB b = true) : freeInV b.folk = sumP b.folk b.folk.length ∧ stakesV b.mills = sumM b.mills b.mills.length ∧ amountInV b.waits = sumA b.waits b.waits.length := by
  obtain ⟨⟨h1, h2, h3, h4⟩, -⟩ := lists_all h
  exact ⟨by simp [freeInV, h1], by simp [stakesV, h2], by simp [amountInV, h4]⟩

set_option maxHeartbeats 8000000 in
set_option maxRecDepth 100000 in
theorem iTotal_any {w : World} {b : Bok} {s : Spots} (h : BookAt w b s) (hl : BLen b) (hz : BSized b) :
    Calls Tryz.prog 12 #[.agg #[.int .i64 b.season, .int .i64 b.supply, .int .i64 b.burnt, .int .i64 b.pot, .slice s.fa b.folk.length s.fc, .slice s.ma b.mills.length s.mc, .slice s.pa b.parts.length s.pc, .slice s.wa b.waits.length s.wc]] w fun e w' => e = .returned (.int .i64 (totalOfV b)) ∧ Below w.heap.size w w' := by
  have X0 := Lib.hid (BoxB.new h 35)
  have B0 := Lib.hid (below_new w (.cells #[.int .i64 b.season, .int .i64 b.supply, .int .i64 b.burnt, .int .i64 b.pot, .slice s.fa b.folk.length s.fc, .slice s.ma b.mills.length s.mc, .slice s.pa b.parts.length s.pc, .slice s.wa b.waits.length s.wc] 35))
  have HL := Lib.hid hl
  have HZ := Lib.hid hz
  clear h hl hz
  go_enter Tryz.func12, Tryz.ntmps12
  go_wp2_with fail
  refine (iLedger_any (b := b) (s := s)).mono ?_
  rintro e w1 ⟨rfl, hb1⟩
  have X1 := Lib.hid (X0.out.below hb1)
  have B1 := Lib.hid (below_trans B0.out hb1)
  obtain ⟨V, hV⟩ : ∃ V, w1.alloc (.cells #[.slice s.fa b.folk.length s.fc, .slice s.ma b.mills.length s.mc, .slice s.pa b.parts.length s.pc, .slice s.wa b.waits.length s.wc] 55) = V := ⟨_, rfl⟩
  have Y := Lib.hid (BoxL.new X1.out.book 55)
  have XV := Lib.hid (X1.out.below (below_new w1 (.cells #[.slice s.fa b.folk.length s.fc, .slice s.ma b.mills.length s.mc, .slice s.pa b.parts.length s.pc, .slice s.wa b.waits.length s.wc] 55)))
  have BV := Lib.hid (below_trans B1.out (below_new w1 (.cells #[.slice s.fa b.folk.length s.fc, .slice s.ma b.mills.length s.mc, .slice s.pa b.parts.length s.pc, .slice s.wa b.waits.length s.wc] 55)))
  rw [hV] at Y XV BV
  clear X0 B0 hb1 X1 B1
  have c0 := XV.out.c0
  have c1 := XV.out.c1
  have c2 := XV.out.c2
  have c3 := XV.out.c3
  have c4 := XV.out.c4
  have c5 := XV.out.c5
  have c6 := XV.out.c6
  have c7 := XV.out.c7
  go_wp2_with fail
  refine (iRange_any (s := s) XV.out.book).mono ?_
  rintro e w2 ⟨rfl, hb2⟩
  have Y2 := Lib.hid (Y.out.below hb2)
  have X2 := Lib.hid (XV.out.below hb2)
  have B2 := Lib.hid (below_trans BV.out hb2)
  clear Y XV BV hb2 c0 c1 c2 c3 c4 c5 c6 c7
  cases h1 : rangeB b
  · have HN := Lib.hid (totalOf_no (lists_range h1))
    go_wp2
    go_ret
    exact ⟨by rw [HN.out]; rfl, B2.out⟩
  have y0 := Y2.out.c0
  have y1 := Y2.out.c1
  have y2 := Y2.out.c2
  have y3 := Y2.out.c3
  go_wp2_with fail
  refine (iRight_any (s := s) X2.out.book HL.out HZ.out).mono ?_
  rintro e w3 ⟨rfl, hb3⟩
  have Y3 := Lib.hid (Y2.out.below hb3)
  have X3 := Lib.hid (X2.out.below hb3)
  have B3 := Lib.hid (below_trans B2.out hb3)
  clear Y2 X2 B2 hb3 y0 y1 y2 y3
  cases h2 : rightsB b
  · have HN := Lib.hid (totalOf_no (lists_rights h2))
    go_wp2
    go_ret
    exact ⟨by rw [HN.out]; rfl, B3.out⟩
  have hf := lists_both h2 h1
  obtain ⟨q1, q2, q3, q4, q5⟩ := total_bd hf
  have HT : Hid (totalV b = sumP b.folk b.folk.length + sumM b.mills b.mills.length + sumA b.waits b.waits.length + b.burnt + b.pot) := rfl
  obtain ⟨a1, a2, a3⟩ := rights_all hf
  obtain ⟨v1, e1⟩ : ∃ v, sumP b.folk b.folk.length = v := ⟨_, rfl⟩
  obtain ⟨v2, e2⟩ : ∃ v, sumM b.mills b.mills.length = v := ⟨_, rfl⟩
  obtain ⟨v3, e3⟩ : ∃ v, sumA b.waits b.waits.length = v := ⟨_, rfl⟩
  rw [e1] at q1 a1
  rw [e2] at q2 a2
  rw [e3] at q3 a3
  rw [e1, e2, e3] at HT
  have HN := Lib.hid ((totalOf_yes hf).trans HT.out)
  have E1 := Lib.hid a1
  have E2 := Lib.hid a2
  have E3 := Lib.hid a3
  clear hf e1 e2 e3 a1 a2 a3 HT h1 h2
  have g2 := Grow.cell X3.out.c2
  have g3 := Grow.cell X3.out.c3
  have y0 := Grow.cell Y3.out.c0
  have y1 := Grow.cell Y3.out.c1
  have y3 := Grow.cell Y3.out.c3
  have s1 : IntKind.i64.wrap (v1 + v2) = v1 + v2 := IntWalk.i64_in _ (by omega)
  have s2 : IntKind.i64.wrap (v1 + v2 + v3) = v1 + v2 + v3 := IntWalk.i64_in _ (by omega)
  have s3 : IntKind.i64.wrap (v1 + v2 + v3 + b.burnt) = v1 + v2 + v3 + b.burnt := IntWalk.i64_in _ (by omega)
  have s4 : IntKind.i64.wrap (v1 + v2 + v3 + b.burnt + b.pot) = v1 + v2 + v3 + b.burnt + b.pot := IntWalk.i64_in _ (by omega)
  go_wp2
  refine wp_region_grow (by kernel_rfl) (by kernel_rfl) ?_
  repeat (go_big_quiet_step (first | (go_at_call 35; exact grow_call (int_is E1.out) (iFree_any _ (X3.out.book.folk.below (Grow.ok _)) HL.out.fl HZ.out.fs)) | (go_at_call 36; exact grow_call (int_is E2.out) (iStaked_any _ (X3.out.book.mills.below (Grow.ok _)) (by have := HL.out.ml; omega) HZ.out.ms)) | (go_at_call 37; exact grow_call (int_is E3.out) (iWaitingM_any _ (X3.out.book.waits.below (Grow.ok _)) (by have := HL.out.wl; omega) HZ.out.ws))))
  refine wpQuiet_nil ?_
  intro _ hw'
  obtain ⟨gq, rfl⟩ := hw'
  have HB2 := Lib.hid (below_trans B3.out gq.ok)
  go_wp2
  go_ret
  exact ⟨by rw [HN.out]; rfl, HB2.out⟩

theorem range_sup {b : Bok} (h : rangeB b = true) : 0 ≤ b.supply := by
  have : inB 0 1000000 b.supply = true := by
    simp only [rangeB, Bool.and_eq_true] at h
    exact h.2.1
  exact (inB_bd this).1
theorem book_range {b : Bok} (h : rangeB b = false) : bookB b = false := book_l (lists_range h)
theorem book_total {b : Bok} (h2 : (totalOfV b == b.supply) = false) : bookB b = false := by
  cases hl : listsB b
  · exact book_l hl
  · rw [totalOf_yes hl] at h2; exact book_s h2
theorem total_lists {b : Bok} (h : rangeB b = true) (h2 : (totalOfV b == b.supply) = true) : listsB b = true ∧ (totalV b == b.supply) = true := by
  cases hl : listsB b
  · have h3 := range_sup h
    rw [totalOf_no hl] at h2
    have : (-1 : Int) = b.supply := by simpa using h2
    omega
  · exact ⟨rfl, by rw [totalOf_yes hl] at h2; exact h2⟩

set_option maxHeartbeats 8000000 in
set_option maxRecDepth 100000 in
theorem iBookOk_any {w : World} {b : Bok} {s : Spots} (h : BookAt w b s) (hl : BLen b) (hz : BSized b) :
    Calls Tryz.prog 9 #[.agg #[.int .i64 b.season, .int .i64 b.supply, .int .i64 b.burnt, .int .i64 b.pot, .slice s.fa b.folk.length s.fc, .slice s.ma b.mills.length s.mc, .slice s.pa b.parts.length s.pc, .slice s.wa b.waits.length s.wc]] w fun e w' => e = .returned (.bool (bookB b)) ∧ Below w.heap.size w w' := by
  have X0 := Lib.hid (BoxB.new h 35)
  have B0 := Lib.hid (below_new w (.cells #[.int .i64 b.season, .int .i64 b.supply, .int .i64 b.burnt, .int .i64 b.pot, .slice s.fa b.folk.length s.fc, .slice s.ma b.mills.length s.mc, .slice s.pa b.parts.length s.pc, .slice s.wa b.waits.length s.wc] 35))
  have HL := Lib.hid hl
  have HZ := Lib.hid hz
  clear h hl hz
  go_enter Tryz.func9, Tryz.ntmps9
  go_wp2_with fail
  refine (iLedger_any (b := b) (s := s)).mono ?_
  rintro e w1 ⟨rfl, hb1⟩
  have X1 := Lib.hid (X0.out.below hb1)
  have B1 := Lib.hid (below_trans B0.out hb1)
  obtain ⟨V, hV⟩ : ∃ V, w1.alloc (.cells #[.slice s.fa b.folk.length s.fc, .slice s.ma b.mills.length s.mc, .slice s.pa b.parts.length s.pc, .slice s.wa b.waits.length s.wc] 55) = V := ⟨_, rfl⟩
  have Y := Lib.hid (BoxL.new X1.out.book 55)
  have XV := Lib.hid (X1.out.below (below_new w1 (.cells #[.slice s.fa b.folk.length s.fc, .slice s.ma b.mills.length s.mc, .slice s.pa b.parts.length s.pc, .slice s.wa b.waits.length s.wc] 55)))
  have BV := Lib.hid (below_trans B1.out (below_new w1 (.cells #[.slice s.fa b.folk.length s.fc, .slice s.ma b.mills.length s.mc, .slice s.pa b.parts.length s.pc, .slice s.wa b.waits.length s.wc] 55)))
  rw [hV] at Y XV BV
  clear X0 B0 hb1 X1 B1
  have g0 := Grow.cell XV.out.c0
  have g1 := Grow.cell XV.out.c1
  have g2 := Grow.cell XV.out.c2
  have g3 := Grow.cell XV.out.c3
  have g4 := Grow.cell XV.out.c4
  have g5 := Grow.cell XV.out.c5
  have g6 := Grow.cell XV.out.c6
  have g7 := Grow.cell XV.out.c7
  have y0 := Grow.cell Y.out.c0
  have y1 := Grow.cell Y.out.c1
  have y2 := Grow.cell Y.out.c2
  have y3 := Grow.cell Y.out.c3
  cases h1 : rangeB b
  · have HN := Lib.hid (book_range h1)
    go_wp2
    refine wp_region_grow (by kernel_rfl) (by kernel_rfl) ?_
    repeat (go_big_quiet_step (first | (go_at_call 27; exact grow_call (bool_is h1) (iRange_any (s := s) (XV.out.book.below (Grow.ok _))))))
    refine wpQuiet_nil ?_
    intro _ hw'
    obtain ⟨gq, rfl⟩ := hw'
    have HB2 := Lib.hid (below_trans BV.out gq.ok)
    go_wp2
    go_ret
    exact ⟨by rw [HN.out]; rfl, HB2.out⟩
  cases h2 : (totalOfV b == b.supply)
  · have HN := Lib.hid (book_total h2)
    go_wp2
    refine wp_region_grow (by kernel_rfl) (by kernel_rfl) ?_
    repeat (go_big_quiet_step (first | (go_at_call 27; exact grow_call (bool_is h1) (iRange_any (s := s) (XV.out.book.below (Grow.ok _)))) | (go_at_call 12; exact grow_call rfl (iTotal_any (s := s) (XV.out.book.below (Grow.ok _)) HL.out HZ.out))))
    refine wpQuiet_nil ?_
    intro _ hw'
    obtain ⟨gq, rfl⟩ := hw'
    have HB2 := Lib.hid (below_trans BV.out gq.ok)
    go_wp2
    go_ret
    exact ⟨by rw [HN.out]; rfl, HB2.out⟩
  obtain ⟨hls, hts⟩ := total_lists h1 h2
  have HF := Lib.hid (lists_all hls).1
  have HTB := Lib.hid (there_both b)
  cases h3 : knowsB b
  · have HN := Lib.hid (show bookB b = false from book_t (by rw [HTB.out, h3]; rfl))
    clear hls hts
    go_wp2
    refine wp_region_grow (by kernel_rfl) (by kernel_rfl) ?_
    repeat (go_big_quiet_step (first | (go_at_call 27; exact grow_call (bool_is h1) (iRange_any (s := s) (XV.out.book.below (Grow.ok _)))) | (go_at_call 12; exact grow_call rfl (iTotal_any (s := s) (XV.out.book.below (Grow.ok _)) HL.out HZ.out)) | (go_at_call 28; exact grow_call (bool_is h3) (iKnowsAll_any (s := s) (XV.out.book.below (Grow.ok _)) HL.out HZ.out HF.out.1 HF.out.2.1))))
    refine wpQuiet_nil ?_
    intro _ hw'
    obtain ⟨gq, rfl⟩ := hw'
    have HB2 := Lib.hid (below_trans BV.out gq.ok)
    go_wp2
    go_ret
    exact ⟨by rw [HN.out]; rfl, HB2.out⟩
  have HN := Lib.hid (show bookB b = heldB b by unfold bookB; rw [hls, hts, HTB.out, h3]; simp)
  clear hls hts
  go_wp2
  refine wp_region_grow (by kernel_rfl) (by kernel_rfl) ?_
  repeat (go_big_quiet_step (first | (go_at_call 27; exact grow_call (bool_is h1) (iRange_any (s := s) (XV.out.book.below (Grow.ok _)))) | (go_at_call 12; exact grow_call rfl (iTotal_any (s := s) (XV.out.book.below (Grow.ok _)) HL.out HZ.out)) | (go_at_call 28; exact grow_call (bool_is h3) (iKnowsAll_any (s := s) (XV.out.book.below (Grow.ok _)) HL.out HZ.out HF.out.1 HF.out.2.1)) | (go_at_call 29; exact grow_call rfl (iAllHeld_any (s := s) (XV.out.book.below (Grow.ok _)) HL.out HZ.out))))
  refine wpQuiet_nil ?_
  intro _ hw'
  obtain ⟨gq, rfl⟩ := hw'
  have HB2 := Lib.hid (below_trans BV.out gq.ok)
  go_wp2
  go_ret
  exact ⟨by rw [HN.out]; rfl, HB2.out⟩
end Go.Proofs.YtbgklakhelcgcaaGreat
namespace Go.Proofs.YtbgklakhelcgcaaGreat
open Go.ChangeShapes Go.WideShapes Go.ChangeAt Go.RowKit

set_option maxHeartbeats 1000000 in
set_option maxRecDepth 100000 in
theorem iPartsForM_any {w : World} {a : Option Addr} {ps : List Par} (cap : Nat) (who : ByteArray) (h : Recs Par.cs w a ps) (hl : ps.length ≤ 1048576) (hs : PSized ps) :
    Calls Tryz.prog 44 #[.slice a ps.length cap, .string who] w (ResO Par.cs 3 (partsForV ps who) w) := by
  have H := Lib.hid h
  have HS := Lib.hid hs
  clear h hs
  go_enter Tryz.func44, Tryz.ntmps44
  go_wp2_with fail
  refine (iPartsFor_any _ _ H.out hl HS.out).mono ?_
  rintro e w1 hr
  have HR := Lib.hid hr
  obtain ⟨a1, c1, rfl, -, -⟩ := hr
  go_wp2
  go_ret
  exact HR.out

theorem sumA_map (xs : List Wai) : ∀ k, k ≤ xs.length → sumA xs k = WS (xs.take k)
  | 0, _ => by simp [sumA, WS]
  | k + 1, h => by
    rw [sumA, sumA_map xs k (by omega), watn_eq (by omega), List.take_succ_eq_append_getElem (by omega), WS_more]
theorem amount_for {ps : List Wai} (who : ByteArray) (hf : waitsB ps = true) : amountInV (waitsForV ps who) = WS (ofWhoW who ps) := by
  have h1 : waitsForV ps who = ofWhoW who ps := by simp [waitsForV, hf]
  have h2 : waitsB (ofWhoW who ps) = true := sub_waits hf List.filter_sublist
  rw [h1]
  simp only [amountInV, h2, if_true]
  rw [sumA_map _ _ (Nat.le_refl _), List.take_length]
theorem waitsFor_mem {ps : List Wai} {who : ByteArray} {p : Wai} (h : p ∈ waitsForV ps who) : p ∈ ps := by
  unfold waitsForV at h
  split at h
  · exact (List.mem_filter.1 h).1
  · simp at h
theorem wsized_for {ps : List Wai} (who : ByteArray) (hs : WSized ps) : WSized (waitsForV ps who) := by
  intro k hk
  obtain ⟨j, hj, e⟩ := List.getElem_of_mem (waitsFor_mem (List.getElem_mem hk))
  rw [← e]; exact hs j hj

set_option maxHeartbeats 1000000 in
set_option maxRecDepth 100000 in
theorem iWaitingFor_any {w : World} {a : Option Addr} {ps : List Wai} (cap : Nat) (who : ByteArray) (h : Recs Wai.cs w a ps) (hl : ps.length ≤ 1048576) (hs : WSized ps) (hf : waitsB ps = true) :
    Calls Tryz.prog 43 #[.slice a ps.length cap, .string who] w fun e w' => e = .returned (.int .i64 (WS (ofWhoW who ps))) ∧ Below w.heap.size w w' := by
  have H := Lib.hid h
  have HS := Lib.hid hs
  have HZ := Lib.hid (wsized_for who hs)
  have HA := Lib.hid (amount_for who hf)
  have HL := waitsFor_le ps who
  clear h hs hf
  go_enter Tryz.func43, Tryz.ntmps43
  go_wp2_with fail
  refine (iWaitsFor_any _ _ H.out hl HS.out).mono ?_
  rintro e w1 ⟨a1, c1, rfl, ho, hb1⟩
  have O1 := Lib.hid ho.1
  have B1 := Lib.hid hb1
  clear ho hb1
  go_wp2_with fail
  refine (iAmountIn_any _ O1.out (by omega) HZ.out).mono ?_
  rintro e w2 ⟨rfl, hb2⟩
  have B2 := Lib.hid (below_trans B1.out hb2)
  clear hb2
  go_wp2
  go_ret
  exact ⟨by rw [← HA.out]; rfl, B2.out⟩

theorem millIn_sized {ms : List Mil} (s : ByteArray) (hs : Sized (mnames ms)) : (millInV ms s).name.size ≤ maxLen := by
  unfold millInV
  split
  · rename_i h
    have hp : 0 ≤ placeV (mnames ms) s := by simp only [millInB, Bool.and_eq_true, decide_eq_true_eq] at h; exact h.2
    obtain ⟨k, e, hk, -⟩ := place_hit hp
    rw [len_mn] at hk
    have h2 := hs k
    rw [mnames_at hk] at h2
    rw [e, show ((k : Int)).toNat = k by omega, getD_mil hk]
    exact h2
  · simp [mil0, maxLen]

set_option maxHeartbeats 2000000 in
set_option maxRecDepth 100000 in
theorem iWorthOf_any {w : World} {a : Option Addr} {ms : List Mil} (cap : Nat) (p : Par) (h : Recs Mil.cs w a ms) (hl : ms.length ≤ 9223372036854775807) (hs : Sized (mnames ms)) :
    Calls Tryz.prog 45 #[.slice a ms.length cap, .agg #[.string p.who, .string p.mill, .int .i64 p.shares]] w fun e w' => e = .returned (.int .i64 (worthV (millInV ms p.mill) p.shares)) ∧ Below w.heap.size w w' := by
  obtain ⟨W, hW⟩ : ∃ W, w.alloc (.cells #[.string p.who, .string p.mill, .int .i64 p.shares] 67) = W := ⟨_, rfl⟩
  have R0 := Lib.hid (RecAt.new Par.cs w p 67)
  rw [show w.alloc (.cells p.cs.toArray 67) = W from hW] at R0
  have B0 := Lib.hid (below_new w (.cells #[.string p.who, .string p.mill, .int .i64 p.shares] 67))
  rw [hW] at B0
  have H := Lib.hid (h.below B0.out)
  have HS := Lib.hid hs
  have HZ := Lib.hid (millIn_sized p.mill hs)
  clear h hs
  obtain ⟨m, HM⟩ : ∃ x, Hid (millInV ms p.mill = x) := ⟨_, Lib.hid rfl⟩
  rw [HM.out] at HZ
  rw [HM.out]
  have c1 := R0.out 1 _ rfl
  go_enter Tryz.func45, Tryz.ntmps45
  go_wp2_with fail
  refine (iMillIn_any _ _ H.out hl HS.out).mono ?_
  rw [HM.out]
  rintro e w1 ⟨rfl, hb1⟩
  have R1 := Lib.hid (R0.out.below hb1)
  have B1 := Lib.hid (below_trans B0.out hb1)
  clear hb1 c1 R0 B0
  obtain ⟨V, hV⟩ : ∃ V, w1.alloc (.cells #[.string m.name, .int .i64 m.stake, .int .i64 m.shares, .int .i64 m.cut, .bool m.shut] 70) = V := ⟨_, rfl⟩
  have RV := Lib.hid (RecAt.new Mil.cs w1 m 70)
  have R2 := Lib.hid (R1.out.below (below_new w1 (.cells #[.string m.name, .int .i64 m.stake, .int .i64 m.shares, .int .i64 m.cut, .bool m.shut] 70)))
  have B2 := Lib.hid (below_trans B1.out (below_new w1 (.cells #[.string m.name, .int .i64 m.stake, .int .i64 m.shares, .int .i64 m.cut, .bool m.shut] 70)))
  rw [hV] at R2 B2
  rw [show w1.alloc (.cells m.cs.toArray 70) = V from hV] at RV
  have c2 := R2.out 2 _ rfl
  have m0 := RV.out 0 _ rfl
  have m1 := RV.out 1 _ rfl
  have m2 := RV.out 2 _ rfl
  have m3 := RV.out 3 _ rfl
  have m4 := RV.out 4 _ rfl
  go_wp2_with fail
  refine (iWorth_any m _ _ HZ.out).mono ?_
  rintro e w2 ⟨rfl, hb2⟩
  have B3 := Lib.hid (below_trans B2.out hb2)
  clear hb2
  go_wp2
  go_ret
  exact ⟨rfl, B3.out⟩

set_option maxHeartbeats 8000000 in
set_option maxRecDepth 100000 in
theorem iWorthIn_any {w : World} {b : Bok} {s : Spots} (who : ByteArray) (h : BookAt w b s) (hl : BLen b) (hz : BSized b) :
    Calls Tryz.prog 14 #[.agg #[.int .i64 b.season, .int .i64 b.supply, .int .i64 b.burnt, .int .i64 b.pot, .slice s.fa b.folk.length s.fc, .slice s.ma b.mills.length s.mc, .slice s.pa b.parts.length s.pc, .slice s.wa b.waits.length s.wc], .string who] w fun e w' => e = .returned (.int .i64 (worthInV b who)) ∧ Below w.heap.size w w' := by
  have X0 := Lib.hid (BoxB.new h 35)
  have B0 := Lib.hid (below_new w (.cells #[.int .i64 b.season, .int .i64 b.supply, .int .i64 b.burnt, .int .i64 b.pot, .slice s.fa b.folk.length s.fc, .slice s.ma b.mills.length s.mc, .slice s.pa b.parts.length s.pc, .slice s.wa b.waits.length s.wc] 35))
  have HL := Lib.hid hl
  have HZ := Lib.hid hz
  have l1 := hl.fl
  have l2 := hl.ml
  have l3 := hl.pl
  have l4 := hl.wl
  clear h hl hz
  go_enter Tryz.func14, Tryz.ntmps14
  go_wp2_with fail
  refine (iLedger_any (b := b) (s := s)).mono ?_
  rintro e w1 ⟨rfl, hb1⟩
  have X1 := Lib.hid (X0.out.below hb1)
  have B1 := Lib.hid (below_trans B0.out hb1)
  obtain ⟨V, hV⟩ : ∃ V, w1.alloc (.cells #[.slice s.fa b.folk.length s.fc, .slice s.ma b.mills.length s.mc, .slice s.pa b.parts.length s.pc, .slice s.wa b.waits.length s.wc] 55) = V := ⟨_, rfl⟩
  have Y := Lib.hid (BoxL.new X1.out.book 55)
  have XV := Lib.hid (X1.out.below (below_new w1 (.cells #[.slice s.fa b.folk.length s.fc, .slice s.ma b.mills.length s.mc, .slice s.pa b.parts.length s.pc, .slice s.wa b.waits.length s.wc] 55)))
  have BV := Lib.hid (below_trans B1.out (below_new w1 (.cells #[.slice s.fa b.folk.length s.fc, .slice s.ma b.mills.length s.mc, .slice s.pa b.parts.length s.pc, .slice s.wa b.waits.length s.wc] 55)))
  rw [hV] at Y XV BV
  clear X0 B0 hb1 X1 B1
  have c0 := XV.out.c0
  have c1 := XV.out.c1
  have c2 := XV.out.c2
  have c3 := XV.out.c3
  have c4 := XV.out.c4
  have c5 := XV.out.c5
  have c6 := XV.out.c6
  have c7 := XV.out.c7
  go_wp2_with fail
  refine (iBookOk_any (s := s) XV.out.book HL.out HZ.out).mono ?_
  rintro e w2 ⟨rfl, hb2⟩
  have Y2 := Lib.hid (Y.out.below hb2)
  have B2 := Lib.hid (below_trans BV.out hb2)
  clear Y XV BV hb2 c0 c1 c2 c3 c4 c5 c6 c7
  cases h1 : bookB b
  · have HN := Lib.hid (worthIn_no (who := who) h1)
    go_wp2
    go_ret
    exact ⟨by rw [HN.out]; rfl, B2.out⟩
  obtain ⟨hlists, hthere, -⟩ := book_true h1
  obtain ⟨⟨hfk, hmk, hpk, hwk⟩, -⟩ := lists_all hlists
  have HFK := Lib.hid hfk
  have HWK := Lib.hid hwk
  have hp20 := (parts_true hpk).1
  have hw20 := (waits_true hwk).1
  have HWA := Lib.hid (fun j (hj : j < b.waits.length) => (waits_true hwk).2.1 j hj hj)
  have HPF := Lib.hid (show partsForV b.parts who = ofWho who b.parts by simp [partsForV, hpk])
  have y0 := Y2.out.c0
  go_wp2_with fail
  refine (iHasPurse_any _ _ Y2.out.book.folk HL.out.fl HZ.out.fs HFK.out).mono ?_
  rintro e w3 ⟨rfl, hb3⟩
  have Y3 := Lib.hid (Y2.out.below hb3)
  have B3 := Lib.hid (below_trans B2.out hb3)
  clear Y2 B2 hb3 y0
  by_cases hp : 0 ≤ placeV (pnames b.folk) who
  case neg =>
    have HN := Lib.hid (worthIn_out hp)
    rw [decide_eq_false hp]
    clear hp
    go_wp2
    go_ret
    exact ⟨by rw [HN.out]; rfl, B3.out⟩
  rw [decide_eq_true hp]
  obtain ⟨f, ef, hf, -⟩ := place_hit hp
  rw [len_pn] at hf
  have HN := Lib.hid (worthIn_in h1 ef hf)
  have HE := Lib.hid (freeOf_in hfk ef hf)
  have hfb := inB_bd ((folk_true hfk).2.1 f hf hf)
  clear hp ef hlists hthere hfk hmk hpk hwk h1
  obtain ⟨r, hr⟩ : ∃ r, WS (ofWhoW who b.waits) = r := ⟨_, rfl⟩
  have hbr := WS_bd _ (ofWhoW_mem (who := who) HWA.out b.waits.length)
  have hler := ofWhoW_le who b.waits
  rw [List.take_length] at hbr
  rw [hr] at hbr HN
  have HR := Lib.hid hr
  obtain ⟨fv, hfv⟩ : ∃ x, b.folk[f].free = x := ⟨_, rfl⟩
  rw [hfv] at hfb HE HN
  clear hr hfv
  have g0 := Grow.cell Y3.out.c0
  have g3 := Grow.cell Y3.out.c3
  have hs1 : IntKind.i64.wrap (fv + r) = fv + r := IntWalk.i64_in _ (by omega)
  go_wp2
  refine wp_region_grow (by kernel_rfl) (by kernel_rfl) ?_
  repeat (go_big_quiet_step (first | (go_at_call 42; exact grow_call (int_is HE.out) (iFreeOfM_any _ _ (Y3.out.book.folk.below (Grow.ok _)) HL.out.fl HZ.out.fs)) | (go_at_call 43; exact grow_call (int_is HR.out) (iWaitingFor_any _ _ (Y3.out.book.waits.below (Grow.ok _)) (by omega) HZ.out.ws HWK.out))))
  refine wpQuiet_nil ?_
  intro _ hw'
  obtain ⟨gq, rfl⟩ := hw'
  have Y4 := Lib.hid (Y3.out.below gq.ok)
  have B4 := Lib.hid (below_trans B3.out gq.ok)
  clear g0 g3 Y3 B3 hs1
  have y2 := Y4.out.c2
  go_wp2_with fail
  refine (iPartsForM_any _ _ Y4.out.book.parts (by omega) HZ.out.ps).mono ?_
  rintro e w5 ⟨a5, cap5, rfl, ho5, hb5⟩
  have Y5 := Lib.hid (Y4.out.below hb5)
  have B5 := Lib.hid (below_trans B4.out hb5)
  have O5 := Lib.hid ho5.1
  clear ho5 hb5 Y4 B4 y2
  rw [HPF.out] at O5
  rw [HPF.out]
  obtain ⟨xs, hxs⟩ : ∃ x, ofWho who b.parts = x := ⟨_, rfl⟩
  have hxl := ofWho_le who b.parts
  rw [hxs] at O5 HN hxl
  rw [hxs]
  clear hxs HPF
  go_wp2
  go_loopw [6, 35] (fun t i w' => ∃ k : Nat, k ≤ xs.length ∧ i = .int .i64 k ∧ t = .int .i64 (fv + r + PS b.mills (xs.take k)) ∧ Below w5.heap.size w5 w') (fun _ i _ => xs.length - (intOf i).toNat)
  case atStart => exact ⟨0, Nat.zero_le _, rfl, by simp [PS], Below.refl _ _⟩
  case round =>
    obtain ⟨k, hk, rfl, rfl, hb⟩ := hrel
    have X := Lib.hid (Y5.out.below hb)
    have OX := Lib.hid (O5.out.below hb)
    have HB := Lib.hid hb
    have BB := Lib.hid (below_trans B5.out hb)
    clear hb
    obtain ⟨t, ht⟩ : ∃ t, PS b.mills (xs.take k) = t := ⟨_, rfl⟩
    have hbd := PS_bd b.mills (xs.take k)
    rw [List.length_take] at hbd
    rw [ht] at hbd
    rw [ht]
    have HT := Lib.hid ht
    clear ht
    by_cases hlt : k < xs.length
    · obtain ⟨p, off, rfl, hlb, d0, d1, d2⟩ := Par.at OX.out k hlt
      have hwb := worth_bd (millInV b.mills xs[k].mill) xs[k].shares
      obtain ⟨v, hv⟩ : ∃ v, worthV (millInV b.mills xs[k].mill) xs[k].shares = v := ⟨_, rfl⟩
      rw [hv] at hwb
      have HO := Lib.hid (show PS b.mills (xs.take (k + 1)) = t + v by rw [List.take_succ_eq_append_getElem hlt, PS_more, HT.out, hv])
      have HV := Lib.hid hv
      obtain ⟨U, hU⟩ : ∃ U, wr.alloc (.cells #[.string xs[k].who, .string xs[k].mill, .int .i64 xs[k].shares] 67) = U := ⟨_, rfl⟩
      have BU := Lib.hid (below_new wr (.cells #[.string xs[k].who, .string xs[k].mill, .int .i64 xs[k].shares] 67))
      have RU := Lib.hid (RecAt.new Par.cs wr xs[k] 67)
      rw [hU] at BU
      rw [show wr.alloc (.cells (xs[k].cs).toArray 67) = U from hU] at RU
      have XU := Lib.hid (X.out.below BU.out)
      have HBU := Lib.hid (below_trans HB.out BU.out)
      have x1 := XU.out.c1
      have r0 := RU.out 0 _ rfl
      have r1 := RU.out 1 _ rfl
      have r2 := RU.out 2 _ rfl
      have hs2 : IntKind.i64.wrap (fv + r + t + v) = fv + r + t + v := IntWalk.i64_in _ (by omega)
      clear hv hlb
      go_wp2_with fail
      refine (iWorthOf_any _ xs[k] XU.out.book.mills (by omega) HZ.out.ms).mono ?_
      rw [HV.out]
      rintro e w6 ⟨rfl, hb6⟩
      have HB6 := Lib.hid (below_trans HBU.out hb6)
      clear hb6
      go_wp2
      go_roundw
      case rel => exact ⟨k + 1, by omega, by go_num, by rw [HO.out, Int.add_assoc (fv + r)], HB6.out⟩
      case measure => simp [intOf]; omega
    obtain rfl : k = xs.length := by omega
    have HS := Lib.hid (show fv + PS b.mills xs + r = fv + r + t by have := HT.out; rw [List.take_length] at this; omega)
    go_wp2
    go_ret
    exact ⟨by rw [HN.out, HS.out]; rfl, BB.out⟩

theorem bsized_of {b : Bok} (h : BFits b) : BSized b :=
  ⟨Sized.of (n := 9223372036854775807) (fun s hs => by obtain ⟨p, hp, rfl⟩ := List.mem_map.1 hs; exact h.fs p hp) (by unfold maxLen; omega),
   Sized.of (n := 9223372036854775807) (fun s hs => by obtain ⟨p, hp, rfl⟩ := List.mem_map.1 hs; exact h.ms p hp) (by unfold maxLen; omega),
   fun k hk => by have := h.ps _ (List.getElem_mem hk); simp only [Par.fits] at this; unfold maxLen; omega,
   fun k hk => by have := h.ws _ (List.getElem_mem hk); simp only [Wai.fits] at this; unfold maxLen; omega⟩
end Go.Proofs.YtbgklakhelcgcaaGreat
namespace Go.Proofs.YtbgklakhelcgcaaGreat
open Go.ChangeShapes Go.WideShapes Go.ChangeAt Go.RowKit

set_option maxRecDepth 100000 in
theorem laidOut : laidOutB Tryz.prog = true := by kernel_rfl
set_option maxRecDepth 100000 in
theorem ownKnobNone : ownKnob Tryz.prog.godebug = none := by kernel_rfl

set_option maxRecDepth 100000 in
theorem arg_strs {H : Type} {enc : TypeId × Value → H} {W : World} {r : Reach} {base : Nat} {v : Value} {d : DataW H} {p : List MemPlace}
    (hv : Value.okWide Tryz.prog W r base 135 v) (h : DataW.Trod enc Tryz.prog W 0 (fun _ => true) true 135 v d p) :
    ∃ a cap ss, v = .slice a ss.length cap ∧ Strs W a ss ∧ ss.length ≤ 9223372036854775807 ∧ ∀ s ∈ ss, s.size ≤ 9223372036854775807 := by
  obtain ⟨a0, len, cap, rfl⟩ := okWide_slice Tryz.underlying135 hv
  obtain ⟨fuel, hf⟩ := h
  rcases open_strings Tryz.underlying135 Tryz.underlying9 (by kernel_rfl) hf with ⟨hcs, _⟩ | ⟨x, l, c, ss, hcs, _, hl, hm, hz, _, hcell, hsz⟩
  · simp [Value.cells] at hcs
    obtain ⟨rfl, rfl, rfl⟩ := hcs
    exact ⟨none, 0, [], rfl, Lies.nil _ _, by simp, by simp⟩
  · simp [Value.cells] at hcs
    obtain ⟨rfl, rfl, rfl⟩ := hcs
    simp only [if_true] at hz
    have hlen : (ss.take len).length = len := by simp; omega
    refine ⟨some x, cap, ss.take len, by rw [hlen], ?_, ?_, fun s hs => ?_⟩
    · intro k v hk
      have hkl : k < (ss.take len).length := by
        have := (List.getElem?_eq_some_iff.1 hk).1
        simpa using this
      have hks : k < ss.length := by omega
      have hv : v = .string (ss.getD k ByteArray.empty) := by
        rw [List.getElem?_map, List.getElem?_take_of_lt (by omega), List.getElem?_eq_getElem hks] at hk
        simp only [Option.map_some, Option.some.injEq] at hk
        rw [← hk, List.getD_eq_getElem?_getD, List.getElem?_eq_getElem hks, Option.getD_some]
      subst hv
      obtain ⟨b, off, spot⟩ := x
      have hc := hcell k hks
      have h0 := hcell 0 (by omega)
      have hspot : spot = none := by simpa [Addr.add] using World.cell?_spot h0
      subst hspot
      exact ⟨b, off, rfl, by rw [← Go.WideShapes.add_plain]; exact hc⟩
    · rw [hlen]; unfold maxLen at hm; omega
    · have := hsz s (List.mem_of_mem_take hs); unfold maxLen at this; omega
end Go.Proofs.YtbgklakhelcgcaaGreat
namespace Go.Proofs.YtbgklakhelcgcaaGreat
open Go.ChangeShapes Go.WideShapes Go.ChangeAt Go.RowKit

set_option maxRecDepth 100000 in
theorem list_of (n : Nat) (f : Nat → Pur) : ∃ ps : List Pur, ps.length = n ∧ ∀ k (h : k < ps.length), ps[k] = f k :=
  ⟨(List.range n).map f, by simp, fun k h => by simp⟩

set_option maxRecDepth 100000 in
theorem pcells_cases : ∀ (ps : List Pur) (j : Nat) (v : Value), (pcells ps)[j]? = some v → ∃ k, ∃ h : k < ps.length, (j = k * 2 ∧ v = .string ps[k].name) ∨ (j = k * 2 + 1 ∧ v = .int .i64 ps[k].free)
  | [], j, v, h => by simp [pcells] at h
  | p :: r, 0, v, h => ⟨0, by simp, .inl ⟨rfl, by simpa [pcells] using h.symm⟩⟩
  | p :: r, 1, v, h => ⟨0, by simp, .inr ⟨rfl, by simpa [pcells] using h.symm⟩⟩
  | p :: r, j + 2, v, h => by
    obtain ⟨k, hk, hh⟩ := pcells_cases r j v (by simpa [pcells] using h)
    refine ⟨k + 1, by simpa using hk, ?_⟩
    rcases hh with ⟨rfl, rfl⟩ | ⟨rfl, rfl⟩
    · exact .inl ⟨by omega, by simp⟩
    · exact .inr ⟨by omega, by simp⟩

set_option maxRecDepth 100000 in
theorem purs_mk {w : World} {b off : Nat} {ps : List Pur} (h : ∀ k (h : k < ps.length), w.cell? ⟨b, off + k * 2, none⟩ = some (.string ps[k].name) ∧ w.cell? ⟨b, off + (k * 2 + 1), none⟩ = some (.int .i64 ps[k].free)) : Purs w (some ⟨b, off, none⟩) ps := by
  intro j v hj
  obtain ⟨k, hk, hh⟩ := pcells_cases ps j v hj
  refine ⟨b, off, rfl, ?_⟩
  rcases hh with ⟨rfl, rfl⟩ | ⟨rfl, rfl⟩
  · exact (h k hk).1
  · exact (h k hk).2

set_option maxRecDepth 100000 in
theorem arg_purs {H : Type} {enc : TypeId × Value → H} {W : World} {r : Reach} {base : Nat} {v : Value} {d : DataW H} {p : List MemPlace}
    (hv : Value.okWide Tryz.prog W r base 22 v) (h : DataW.Trod enc Tryz.prog W 0 (fun _ => true) true 22 v d p) :
    ∃ a cap ps, v = .slice a ps.length cap ∧ Purs W a ps ∧ ps.length ≤ 9223372036854775807 ∧ ∀ p ∈ ps, p.name.size ≤ 9223372036854775807 := by
  obtain ⟨a0, len, cap, rfl⟩ := okWide_slice Tryz.underlying22 hv
  obtain ⟨fuel, hf⟩ := h
  rcases Go.Deep.open_slice_pairs Tryz.underlying22 Tryz.underlying79 (by kernel_rfl) rfl rfl (by kernel_rfl) (by kernel_rfl) hf with ⟨hcs, _⟩ | ⟨x, l, c, m, n, V0, V1, D0, D1, P0, P1, hcs, _, hl, hm, hmm, _, hi⟩
  · simp [Value.cells] at hcs
    obtain ⟨rfl, rfl, rfl⟩ := hcs
    exact ⟨none, 0, [], rfl, Lies.nil _ _, by simp, by simp⟩
  · simp [Value.cells] at hcs
    obtain ⟨rfl, rfl, rfl⟩ := hcs
    simp only [if_true] at hmm
    subst hmm
    have hall : ∀ i, i < len → ∃ s z, V0 i = .string s ∧ V1 i = .int .i64 z ∧ s.size ≤ maxLen := by
      intro i hlt
      obtain ⟨_, _, h0, h1⟩ := hi i (by omega)
      obtain ⟨s, es, _, hs⟩ := DataW.trod_string Tryz.underlying9 h0
      obtain ⟨z, ez, _, _⟩ := DataW.trod_int Tryz.underlying2 h1
      exact ⟨s, z, by simpa using es, by simpa using ez, hs⟩
    have hch : ∃ f : Nat → Pur, ∀ i, i < len → V0 i = .string (f i).name ∧ V1 i = .int .i64 (f i).free ∧ (f i).name.size ≤ maxLen := by
      refine ⟨fun i => if hlt : i < len then ⟨(hall i hlt).choose, (hall i hlt).choose_spec.choose⟩ else ⟨ByteArray.empty, 0⟩, fun i hlt => ?_⟩
      simp only [hlt, dite_true]
      exact (hall i hlt).choose_spec.choose_spec
    obtain ⟨f, hfi⟩ := hch
    obtain ⟨ps, hlen, hps⟩ := list_of len f
    refine ⟨some x, m, ps, by rw [hlen], ?_, ?_, ?_⟩
    · obtain ⟨b, off, spot⟩ := x
      by_cases h0 : 0 < len
      · have hc0 := (hi 0 (by omega)).1
        have hspot : spot = none := by simpa [Addr.add] using World.cell?_spot hc0
        subst hspot
        refine purs_mk fun k hk => ?_
        obtain ⟨e0, e1, _, _⟩ := hi k (by omega)
        obtain ⟨g0, g1, _⟩ := hfi k (by omega)
        rw [hps k hk, ← g0, ← g1]
        rw [Go.WideShapes.add_plain] at e0 e1
        exact ⟨e0, e1⟩
      · have : ps = [] := List.eq_nil_of_length_eq_zero (by omega)
        subst this
        exact Lies.nil _ _
    · rw [hlen]; unfold maxLen at hm; omega
    · intro p hp
      obtain ⟨k, hk, rfl⟩ := List.getElem_of_mem hp
      rw [hps k hk]
      have := (hfi k (by omega)).2.2
      unfold maxLen at this; omega
end Go.Proofs.YtbgklakhelcgcaaGreat
