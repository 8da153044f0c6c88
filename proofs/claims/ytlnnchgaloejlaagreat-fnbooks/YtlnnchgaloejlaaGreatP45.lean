/-
  Texts joined: WaitK, BookI, BookJ.
-/
import Derived.Test.YtlnnchgaloejlaaGreatP11
import Derived.Test.YtlnnchgaloejlaaGreatP31
import Derived.Test.YtlnnchgaloejlaaGreatP42
import Derived.Test.YtlnnchgaloejlaaGreatP44
namespace Go.Proofs.YtlnnchgaloejlaaGreat
open Go.ChangeShapes Go.WideShapes Go.ChangeAt Go.RowKit

theorem waits_all {ps : List Wai} (h20 : ps.length ≤ 20) (h : ∀ j (h : j < ps.length), waitB ps[j] = true) : waitsB ps = wsortB ps := by
  rw [Bool.eq_iff_iff]
  constructor
  · intro hw
    exact wsort_yes fun j hj _ => (waits_true hw).2.2 j hj hj
  · intro hs
    have hs' : WFrom ps 0 := by simpa [wsortB] using hs
    exact waits_yes h20 ⟨fun j hj _ => h j hj, fun j hj _ => hs' j hj (Nat.zero_le _)⟩

set_option maxHeartbeats 4000000 in
set_option maxRecDepth 100000 in
theorem iWaitsOk_any {w : World} {a : Option Addr} {ps : List Wai} (cap : Nat) (h : Recs Wai.cs w a ps) (hl : ps.length ≤ 9223372036854775807) (hs : WSized ps) :
    Calls Tryz.prog 73 #[.slice a ps.length cap] w fun e w' => e = .returned (.bool (waitsB ps)) ∧ Below w.heap.size w w' := by
  have H := Lib.hid h
  have HS := Lib.hid hs
  clear h hs
  by_cases h20 : ps.length ≤ 20
  case neg =>
    have HN := Lib.hid (waits_long h20)
    have hd : decide ((20 : Int) < (ps.length : Int)) = true := by simp; omega
    go_enter Tryz.func73, Tryz.ntmps73
    go_wp2
    go_ret
    exact ⟨by rw [HN.out]; rfl, Below.refl _ _⟩
  have hd : decide ((20 : Int) < (ps.length : Int)) = false := by simp; omega
  go_enter Tryz.func73, Tryz.ntmps73
  go_wp2
  go_loopw [10] (fun i w' => ∃ k : Nat, k ≤ ps.length ∧ i = .int .i64 k ∧ Below w.heap.size w w' ∧ ∀ j (h : j < ps.length), j < k → waitB ps[j] = true) (fun i _ => ps.length - (intOf i).toNat)
  case atStart => exact ⟨0, Nat.zero_le _, rfl, Below.refl _ _, fun _ _ h => by omega⟩
  case round =>
    obtain ⟨k, hk, rfl, hb, hu⟩ := hrel
    have HB := Lib.hid hb
    have HU := Lib.hid hu
    clear hb hu
    by_cases hlt : k < ps.length
    · obtain ⟨b, off, rfl, hlb, c0, c1, c2, c3⟩ := Wai.at (H.out.below HB.out) k hlt
      have hz1 := Lib.hid (HS.out k hlt).1
      have hz2 := Lib.hid (HS.out k hlt).2
      have HBN := Lib.hid (below_trans HB.out (below_new wr (.cells #[.string ps[k].who, .string ps[k].mill, .int .i64 ps[k].amount, .int .i64 ps[k].ripe] 74)))
      go_wp2_with fail
      refine (iWaitRight_any ps[k] _ hz1.out hz2.out).mono ?_
      rintro e w2 ⟨rfl, hb2⟩
      have HB2 := Lib.hid (below_trans HBN.out hb2)
      clear hb2 HBN
      cases hn : waitB ps[k]
      · have HN := Lib.hid (waits_not hlt hn)
        go_wp2
        go_ret
        exact ⟨by rw [HN.out]; rfl, HB2.out⟩
      · have HUN : Hid (∀ j (h : j < ps.length), j < k + 1 → waitB ps[j] = true) := by
          intro j h hj
          by_cases e : j = k
          · subst e; exact hn
          · exact HU.out j h (by omega)
        go_wp2
        go_roundw
        case rel => exact ⟨k + 1, by omega, by go_num, HB2.out, HUN.out⟩
        case measure => simp [intOf]; omega
    · obtain rfl : k = ps.length := by omega
      have HN := Lib.hid (waits_all h20 (fun j hj => HU.out j hj hj))
      go_wp2_with fail
      refine (iSorted_any _ (H.out.below HB.out) (by omega)).mono ?_
      rintro e w2 ⟨rfl, hb2⟩
      have HB2 := Lib.hid (below_trans HB.out hb2)
      clear hb2
      go_wp2
      go_ret
      exact ⟨by rw [HN.out]; rfl, HB2.out⟩

set_option maxHeartbeats 4000000 in
set_option maxRecDepth 100000 in
theorem iAmountIn_any {w : World} {a : Option Addr} {ps : List Wai} (cap : Nat) (h : Recs Wai.cs w a ps) (hl : ps.length ≤ 9223372036854775807) (hs : WSized ps) :
    Calls Tryz.prog 75 #[.slice a ps.length cap] w fun e w' => e = .returned (.int .i64 (amountInV ps)) ∧ Below w.heap.size w w' := by
  have H := Lib.hid h
  have HS := Lib.hid hs
  clear h hs
  go_enter Tryz.func75, Tryz.ntmps75
  go_wp2_with fail
  refine (iWaitsOk_any _ H.out hl HS.out).mono ?_
  rintro e w1 ⟨rfl, hb1⟩
  have HB1 := Lib.hid hb1
  clear hb1
  cases hf : waitsB ps
  · have HN := Lib.hid (show amountInV ps = -1 by simp [amountInV, hf])
    go_wp2
    go_ret
    exact ⟨by rw [HN.out]; rfl, HB1.out⟩
  · have HNN := Lib.hid (show amountInV ps = sumA ps ps.length by simp [amountInV, hf])
    obtain ⟨h20, hm⟩ := waits_true hf
    have HM := Lib.hid hm
    clear hm hf
    go_wp2_with fail
    go_loopw [3, 11] (fun t i w' => ∃ k : Nat, k ≤ ps.length ∧ i = .int .i64 k ∧ t = .int .i64 (sumA ps k) ∧ Below w.heap.size w w') (fun _ i _ => ps.length - (intOf i).toNat)
    case atStart => exact ⟨0, Nat.zero_le _, rfl, rfl, HB1.out⟩
    case round =>
      obtain ⟨k, hk, rfl, rfl, hb⟩ := hrel
      have HB := Lib.hid hb
      clear hb
      have hsb := sumA_bd HM.out k hk
      by_cases hlt : k < ps.length
      · obtain ⟨b, off, rfl, _, c0, c1, c2, c3⟩ := Wai.at (H.out.below HB.out) k hlt
        have HN := Lib.hid (show sumA ps (k + 1) = sumA ps k + ps[k].amount by simp only [sumA, watn_eq hlt])
        have hb3 := wait_bd (HM.out.1 k hlt hlt)
        have HBN := Lib.hid (below_trans HB.out (below_new wr (.cells #[.string ps[k].who, .string ps[k].mill, .int .i64 ps[k].amount, .int .i64 ps[k].ripe] 74)))
        go_wp2
        go_roundw
        case rel => exact ⟨k + 1, by omega, by go_num, by rw [HN.out], HBN.out⟩
        case measure => simp [intOf]; omega
      · obtain rfl : k = ps.length := by omega
        go_wp2
        go_ret
        exact ⟨by rw [HNN.out]; rfl, HB.out⟩

set_option maxHeartbeats 4000000 in
set_option maxRecDepth 100000 in
theorem iWaitsFor_any {w : World} {a : Option Addr} {ps : List Wai} (cap : Nat) (who : ByteArray) (h : Recs Wai.cs w a ps) (hl : ps.length ≤ 1048576) (hs : WSized ps) :
    Calls Tryz.prog 77 #[.slice a ps.length cap, .string who] w (ResW (waitsForV ps who) w) := by
  have H := Lib.hid h
  have HS := Lib.hid hs
  clear h hs
  obtain ⟨i0, hi, hz0, hz1, hz2⟩ := info_parts info_Wait
  have HI := Lib.hid hi
  have HZ0 := Lib.hid hz0
  have HZ1 := Lib.hid hz1
  have HZ2 := Lib.hid hz2
  clear hi hz0 hz1 hz2
  go_enter Tryz.func77, Tryz.ntmps77
  go_wp2_with fail
  refine (iWaitsOk_any _ H.out (by omega) HS.out).mono ?_
  rintro e w1 ⟨rfl, hb1⟩
  have HB1 := Lib.hid hb1
  clear hb1
  cases hf : waitsB ps
  · have HN := Lib.hid (show ResW (waitsForV ps who) w (.returned (.slice none 0 0)) w1 from by
      rw [show waitsForV ps who = [] by simp [waitsForV, hf]]
      exact ⟨none, 0, rfl, ⟨Lies.nil _ _, .inl rfl⟩, HB1.out⟩)
    go_wp2
    go_ret
    exact HN.out
  have hle1 : w.heap.size ≤ w1.heap.size := HB1.out.size
  have HR0 : Hid (ForRelW w ps who (.slice (some ⟨w1.heap.size, 0, none⟩) 0 0) (.int .i64 0) (w1.alloc (.cells #[] 74))) :=
    ⟨0, Nat.zero_le _, rfl, ⟨by simp [ofWhoW], .inr ⟨w1.heap.size, 0, #[], by simp [ofWhoW], hle1, heap_alloc_new _ _, by simp [ofWhoW], Nat.zero_le _, by simp, by simp [ofWhoW]⟩⟩, below_trans HB1.out (below_new _ _), .inl rfl⟩
  go_wp2_with fail
  go_loopw [5, 14] (fun v i wr => ForRelW w ps who v i wr) (fun _ i _ => ps.length - (intOf i).toNat)
  case atStart => exact HR0.out
  case round =>
    clear HR0
    obtain ⟨k, hk, rfl, hown, hb, hor⟩ := hrel
    have HW := Lib.hid hown
    have HB := Lib.hid hb
    clear hown hb hor
    by_cases hlt : k < ps.length
    · obtain ⟨b, off, rfl, hlb, c0, c1, c2, c3⟩ := Wai.at (H.out.below HB.out) k hlt
      have HOW1 := Lib.hid (HW.out.alloc (.cells #[.string ps[k].who, .string ps[k].mill, .int .i64 ps[k].amount, .int .i64 ps[k].ripe] 74))
      have HBN := Lib.hid (below_trans HB.out (below_new wr (.cells #[.string ps[k].who, .string ps[k].mill, .int .i64 ps[k].amount, .int .i64 ps[k].ripe] 74)))
      cases hq : (ps[k].who.toList == who.toList)
      · have HR : Hid (∀ v, wr.ownsRow w.heap.size 74 4 v (ofWhoW who (ps.take k)).length ((ofWhoW who (ps.take k)).flatMap Wai.cs) → ForRelW w ps who v (.int .i64 ((k : Int) + 1)) (wr.alloc (.cells #[.string ps[k].who, .string ps[k].mill, .int .i64 ps[k].amount, .int .i64 ps[k].ripe] 74))) :=
          fun v hv => ⟨k + 1, by omega, by go_num, by rw [ofWhoW_no hlt hq]; exact hv.alloc _, HBN.out, .inr hf⟩
        go_wp2
        go_roundw
        case rel => exact HR.out _ HW.out
        case measure => simp [intOf]; omega
      · have HLE := ofWhoW_le who (ps.take k)
        have hlk : (ps.take k).length = k := by simp; omega
        have HBL := Lib.hid (own_lo HW.out)
        have HYS := Lib.hid (ofWhoW_yes hlt hq)
        have HOW := Lib.hid (HOW1.out.alloc (.cells #[.string ps[k].who, .string ps[k].mill, .int .i64 ps[k].amount, .int .i64 ps[k].ripe] 74))
        have hle2 : w.heap.size ≤ wr.heap.size := HB.out.size
        rw [hlk] at HLE
        clear hlk
        have HN1 := Lib.hid (rec_new ps[k] (wr.alloc (.cells #[.string ps[k].who, .string ps[k].mill, .int .i64 ps[k].amount, .int .i64 ps[k].ripe] 74)))
        have HN2 := Lib.hid (show ∀ j u, ([ps[k]].flatMap Wai.cs)[j]? = some u → ((wr.alloc (.cells #[.string ps[k].who, .string ps[k].mill, .int .i64 ps[k].amount, .int .i64 ps[k].ripe] 74)).alloc (.cells #[.string ps[k].who, .string ps[k].mill, .int .i64 ps[k].amount, .int .i64 ps[k].ripe] 74)).cell? ((⟨wr.heap.size + 1, 0, none⟩ : Addr).add j) = some u by simpa using HN1.out)
        go_wp2_with (at_builtin; refine wpList_append_lies _ rfl _ _ 27 rfl w.heap.size 74 i0 (.agg #[.string ByteArray.empty, .string ByteArray.empty, .int .i64 0, .int .i64 0]) 4 48 Tryz.underlying27 HI.out HZ0.out HZ1.out HZ2.out rfl (by decide) _ _ _ rfl HOW.out ⟨wr.heap.size + 1, 0, none⟩ 1 1 ([ps[k]].flatMap Wai.cs) rfl ?c0 HN2.out (flat_one Wai.one _) (by decide) ?c3 ?c4 ?c5 _ rfl ?_)
        case c0 => rfl
        case c3 => unfold maxLen; omega
        case c4 => omega
        case c5 => simp; omega
        intro g6 c6 w6 hown6 hgrow hat hlt6
        have HR : Hid (ForRelW w ps who (.slice (some ⟨g6, 0, none⟩) ((ofWhoW who (ps.take k)).length + 1) c6) (.int .i64 ((k : Int) + 1)) w6) :=
          ⟨k + 1, by omega, by go_num, by rw [HYS.out, List.length_append, List.flatMap_append]; exact hown6, bgrown (below_trans HBN.out (below_new _ _)) (by simp; omega) hgrow HBL.out, .inr hf⟩
        clear hown6 hgrow hat hlt6
        go_wp2
        go_roundw
        case rel => first | exact HR.out | (have := HR.out; simpa using this)
        case measure => simp [intOf]; omega
    · obtain rfl : k = ps.length := by omega
      have HD : Hid (∀ v, wr.ownsRow w.heap.size 74 4 v (ofWhoW who (ps.take ps.length)).length ((ofWhoW who (ps.take ps.length)).flatMap Wai.cs) → ResW (waitsForV ps who) w (.returned v) wr) := by
        intro v hv
        rw [List.take_length] at hv
        rw [show waitsForV ps who = ofWhoW who ps by simp [waitsForV, hf]]
        obtain ⟨a', c', rfl, ho, -⟩ := ownR_of Wai.len hv
        exact ⟨a', c', rfl, ho, HB.out⟩
      go_wp2
      go_ret
      exact HD.out _ HW.out
end Go.Proofs.YtlnnchgaloejlaaGreat
namespace Go.Proofs.YtlnnchgaloejlaaGreat
open Go.ChangeShapes Go.WideShapes Go.ChangeAt Go.RowKit

/-- A block holds a ledger whose lists lie. -/
structure BoxL (w : World) (B : Nat) (b : Bok) (s : Spots) : Prop where
  book : BookAt w b s
  c0 : w.cell? ⟨B, 0, none⟩ = some (.slice s.fa b.folk.length s.fc)
  c1 : w.cell? ⟨B, 1, none⟩ = some (.slice s.ma b.mills.length s.mc)
  c2 : w.cell? ⟨B, 2, none⟩ = some (.slice s.pa b.parts.length s.pc)
  c3 : w.cell? ⟨B, 3, none⟩ = some (.slice s.wa b.waits.length s.wc)
theorem BoxL.lt {w : World} {B : Nat} {b : Bok} {s : Spots} (h : BoxL w B b s) : B < w.heap.size := at_lt h.c0
theorem BoxL.below {w w' : World} {B : Nat} {b : Bok} {s : Spots} (h : BoxL w B b s) (hb : Below w.heap.size w w') : BoxL w' B b s := by
  have k : ∀ o v, w.cell? ⟨B, o, none⟩ = some v → w'.cell? ⟨B, o, none⟩ = some v := fun o v hc => (hb.cell (p := ⟨B, o, none⟩) h.lt).trans hc
  exact ⟨h.book.below hb, k _ _ h.c0, k _ _ h.c1, k _ _ h.c2, k _ _ h.c3⟩
theorem BoxL.new {w : World} {b : Bok} {s : Spots} (h : BookAt w b s) (T : TypeId) : BoxL (w.alloc (.cells #[.slice s.fa b.folk.length s.fc, .slice s.ma b.mills.length s.mc, .slice s.pa b.parts.length s.pc, .slice s.wa b.waits.length s.wc] T)) w.heap.size b s := by
  have k : ∀ (o : Nat) v, (#[.slice s.fa b.folk.length s.fc, .slice s.ma b.mills.length s.mc, .slice s.pa b.parts.length s.pc, .slice s.wa b.waits.length s.wc] : Array Value)[o]? = some v → (w.alloc (.cells #[.slice s.fa b.folk.length s.fc, .slice s.ma b.mills.length s.mc, .slice s.pa b.parts.length s.pc, .slice s.wa b.waits.length s.wc] T)).cell? ⟨w.heap.size, o, none⟩ = some v := fun o v hv => by
    simp only [World.cell?, heap_alloc_new]; exact hv
  exact ⟨h.below (below_new _ _), k _ _ rfl, k _ _ rfl, k _ _ rfl, k _ _ rfl⟩

set_option maxHeartbeats 2000000 in
set_option maxRecDepth 100000 in
theorem iLedger_any {w : World} {b : Bok} {s : Spots} :
    Calls Tryz.prog 28 #[.agg #[.int .i64 b.season, .int .i64 b.supply, .int .i64 b.burnt, .int .i64 b.pot, .slice s.fa b.folk.length s.fc, .slice s.ma b.mills.length s.mc, .slice s.pa b.parts.length s.pc, .slice s.wa b.waits.length s.wc]] w fun e w' => e = .returned (.agg #[.slice s.fa b.folk.length s.fc, .slice s.ma b.mills.length s.mc, .slice s.pa b.parts.length s.pc, .slice s.wa b.waits.length s.wc]) ∧ Below w.heap.size w w' := by
  go_enter Tryz.func28, Tryz.ntmps28
  go_wp2
  refine bodyPost_ret (v := .agg #[.slice s.fa b.folk.length s.fc, .slice s.ma b.mills.length s.mc, .slice s.pa b.parts.length s.pc, .slice s.wa b.waits.length s.wc]) (by simp [results, Tryz.results28, go_sem]) rfl ⟨rfl, ?_⟩
  exact ((Below.refl _ _).alloc (Nat.le_refl _) _).alloc (by simp) _

set_option maxHeartbeats 2000000 in
set_option maxRecDepth 100000 in
theorem allOfA_any (x y z : Int) (B : Nat) (w : World)
    (h0 : w.cell? ⟨B, 0, none⟩ = some (.int .i64 x)) (h1 : w.cell? ⟨B, 1, none⟩ = some (.int .i64 y)) (h2 : w.cell? ⟨B, 2, none⟩ = some (.int .i64 z)) :
    Calls Tryz.prog 60 #[.func (Fn.func 22) #[] #[], .slice (some ⟨B, 0, none⟩) 3 3] w fun e w' => e = .returned (.bool (inB 0 1000000 x && (inB 0 1000000 y && inB 0 1000000 z))) ∧ w = w' := by
  cases hx : inB 0 1000000 x
  · go_enter Tryz.func60, Tryz.ntmps60
    go_wp2
    refine wp_loop_rounds 4 ?_
    rw [rounds_succ]
    go_wp2_with (go_at_call 22; refine (iAmountOk_any _ _).mono ?_; rintro e w' ⟨rfl, rfl⟩; rw [hx])
    go_ret
    exact ⟨rfl, rfl⟩
  cases hy : inB 0 1000000 y
  · go_enter Tryz.func60, Tryz.ntmps60
    go_wp2
    refine wp_loop_rounds 4 ?_
    rw [rounds_succ]
    go_wp2_with (go_at_call 22; refine (iAmountOk_any _ _).mono ?_; rintro e w' ⟨rfl, rfl⟩; rw [hx])
    rw [rounds_succ]
    go_wp2_with (go_at_call 22; refine (iAmountOk_any _ _).mono ?_; rintro e w' ⟨rfl, rfl⟩; rw [hy])
    go_ret
    exact ⟨rfl, rfl⟩
  cases hz : inB 0 1000000 z
  · go_enter Tryz.func60, Tryz.ntmps60
    go_wp2
    refine wp_loop_rounds 4 ?_
    rw [rounds_succ]
    go_wp2_with (go_at_call 22; refine (iAmountOk_any _ _).mono ?_; rintro e w' ⟨rfl, rfl⟩; rw [hx])
    rw [rounds_succ]
    go_wp2_with (go_at_call 22; refine (iAmountOk_any _ _).mono ?_; rintro e w' ⟨rfl, rfl⟩; rw [hy])
    rw [rounds_succ]
    go_wp2_with (go_at_call 22; refine (iAmountOk_any _ _).mono ?_; rintro e w' ⟨rfl, rfl⟩; rw [hz])
    go_ret
    exact ⟨rfl, rfl⟩
  · go_enter Tryz.func60, Tryz.ntmps60
    go_wp2
    refine wp_loop_rounds 4 ?_
    rw [rounds_succ]
    go_wp2_with (go_at_call 22; refine (iAmountOk_any _ _).mono ?_; rintro e w' ⟨rfl, rfl⟩; rw [hx])
    rw [rounds_succ]
    go_wp2_with (go_at_call 22; refine (iAmountOk_any _ _).mono ?_; rintro e w' ⟨rfl, rfl⟩; rw [hy])
    rw [rounds_succ]
    go_wp2_with (go_at_call 22; refine (iAmountOk_any _ _).mono ?_; rintro e w' ⟨rfl, rfl⟩; rw [hz])
    rw [rounds_succ]
    go_wp2
    go_ret
    exact ⟨rfl, rfl⟩
theorem allOfA_new (a b c : Int) (w : World) :
    Calls Tryz.prog 60 #[.func (Fn.func 22) #[] #[], .slice (some ⟨w.heap.size, 0, none⟩) 3 3] (w.alloc (.cells #[.int .i64 a, .int .i64 b, .int .i64 c] 2)) fun e w' => e = .returned (.bool (inB 0 1000000 a && (inB 0 1000000 b && inB 0 1000000 c))) ∧ w.alloc (.cells #[.int .i64 a, .int .i64 b, .int .i64 c] 2) = w' :=
  allOfA_any a b c w.heap.size _ (by go_simp) (by go_simp) (by go_simp)

set_option maxHeartbeats 2000000 in
set_option maxRecDepth 100000 in
theorem iRange_any {w : World} {b : Bok} {s : Spots} (h : BookAt w b s) :
    Calls Tryz.prog 29 #[.agg #[.int .i64 b.season, .int .i64 b.supply, .int .i64 b.burnt, .int .i64 b.pot, .slice s.fa b.folk.length s.fc, .slice s.ma b.mills.length s.mc, .slice s.pa b.parts.length s.pc, .slice s.wa b.waits.length s.wc]] w fun e w' => e = .returned (.bool (rangeB b)) ∧ Below w.heap.size w w' := by
  obtain ⟨W, hW⟩ : ∃ W, w.alloc (.cells #[.int .i64 b.season, .int .i64 b.supply, .int .i64 b.burnt, .int .i64 b.pot, .slice s.fa b.folk.length s.fc, .slice s.ma b.mills.length s.mc, .slice s.pa b.parts.length s.pc, .slice s.wa b.waits.length s.wc] 29) = W := ⟨_, rfl⟩
  have X0 := Lib.hid (BoxB.new h 29)
  have B0 := Lib.hid (below_new w (.cells #[.int .i64 b.season, .int .i64 b.supply, .int .i64 b.burnt, .int .i64 b.pot, .slice s.fa b.folk.length s.fc, .slice s.ma b.mills.length s.mc, .slice s.pa b.parts.length s.pc, .slice s.wa b.waits.length s.wc] 29))
  rw [hW] at X0 B0
  clear h
  have HR : Hid (rangeB b = (inB 0 1000 b.season && (inB 0 1000000 b.supply && (inB 0 1000000 b.burnt && inB 0 1000000 b.pot)))) := rfl
  have c0 := X0.out.c0
  have c1 := X0.out.c1
  have c2 := X0.out.c2
  have c3 := X0.out.c3
  go_enter Tryz.func29, Tryz.ntmps29
  go_wp2_with fail
  refine (within_any _ _ _).mono ?_
  rintro e w1 ⟨rfl, rfl⟩
  cases h1 : inB 0 1000 b.season
  · have HN := Lib.hid (show rangeB b = false from HR.out.trans (by rw [h1]; rfl))
    go_wp2
    go_ret
    exact ⟨by rw [HN.out]; rfl, B0.out⟩
  go_wp2_with fail
  refine (allOfA_new _ _ _ _).mono ?_
  rintro e w2 ⟨rfl, hw2⟩
  have B2 := Lib.hid (below_trans B0.out (below_new W (.cells #[.int .i64 b.supply, .int .i64 b.burnt, .int .i64 b.pot] 2)))
  rw [hw2] at B2
  clear hw2
  have HN := Lib.hid (show rangeB b = (inB 0 1000000 b.supply && (inB 0 1000000 b.burnt && inB 0 1000000 b.pot)) from HR.out.trans (by rw [h1]; rfl))
  go_wp2
  go_ret
  exact ⟨by rw [HN.out]; rfl, B2.out⟩

set_option maxHeartbeats 4000000 in
set_option maxRecDepth 100000 in
theorem iRight_any {w : World} {b : Bok} {s : Spots} (h : BookAt w b s) (hl : BLen b) (hz : BSized b) :
    Calls Tryz.prog 35 #[.agg #[.slice s.fa b.folk.length s.fc, .slice s.ma b.mills.length s.mc, .slice s.pa b.parts.length s.pc, .slice s.wa b.waits.length s.wc]] w fun e w' => e = .returned (.bool (rightsB b)) ∧ Below w.heap.size w w' := by
  have X0 := Lib.hid (BoxL.new h 60)
  have B0 := Lib.hid (below_new w (.cells #[.slice s.fa b.folk.length s.fc, .slice s.ma b.mills.length s.mc, .slice s.pa b.parts.length s.pc, .slice s.wa b.waits.length s.wc] 60))
  have HL := Lib.hid hl
  have HZ := Lib.hid hz
  clear h hl hz
  have HR : Hid (rightsB b = (folkB b.folk && (millsB b.mills && (partsB b.parts && waitsB b.waits)))) := rfl
  go_enter Tryz.func35, Tryz.ntmps35
  go_wp2_with fail
  refine (iFolkOk_any _ X0.out.book.folk HL.out.fl HZ.out.fs).mono ?_
  rintro e w1 ⟨rfl, hb1⟩
  have X1 := Lib.hid (X0.out.below hb1)
  have B1 := Lib.hid (below_trans B0.out hb1)
  clear X0 B0 hb1
  cases h1 : folkB b.folk
  · have HN := Lib.hid (show rightsB b = false from HR.out.trans (by rw [h1]; rfl))
    go_wp2
    go_ret
    exact ⟨by rw [HN.out]; rfl, B1.out⟩
  have c1 := X1.out.c1
  go_wp2_with fail
  refine (iMillsOk_any _ X1.out.book.mills (by have := HL.out.ml; omega) HZ.out.ms).mono ?_
  rintro e w2 ⟨rfl, hb2⟩
  have X2 := Lib.hid (X1.out.below hb2)
  have B2 := Lib.hid (below_trans B1.out hb2)
  clear X1 B1 hb2 c1
  cases h2 : millsB b.mills
  · have HN := Lib.hid (show rightsB b = false from HR.out.trans (by rw [h1, h2]; rfl))
    go_wp2
    go_ret
    exact ⟨by rw [HN.out]; rfl, B2.out⟩
  have c2 := X2.out.c2
  go_wp2_with fail
  refine (iPartsOk_any _ X2.out.book.parts (by have := HL.out.pl; omega) HZ.out.ps).mono ?_
  rintro e w3 ⟨rfl, hb3⟩
  have X3 := Lib.hid (X2.out.below hb3)
  have B3 := Lib.hid (below_trans B2.out hb3)
  clear X2 B2 hb3 c2
  cases h3 : partsB b.parts
  · have HN := Lib.hid (show rightsB b = false from HR.out.trans (by rw [h1, h2, h3]; rfl))
    go_wp2
    go_ret
    exact ⟨by rw [HN.out]; rfl, B3.out⟩
  have c3 := X3.out.c3
  go_wp2_with fail
  refine (iWaitsOk_any _ X3.out.book.waits (by have := HL.out.wl; omega) HZ.out.ws).mono ?_
  rintro e w4 ⟨rfl, hb4⟩
  have B4 := Lib.hid (below_trans B3.out hb4)
  have HN := Lib.hid (show rightsB b = waitsB b.waits from HR.out.trans (by rw [h1, h2, h3]; rfl))
  clear X3 B3 hb4 c3
  go_wp2
  go_ret
  exact ⟨by rw [HN.out]; rfl, B4.out⟩
end Go.Proofs.YtlnnchgaloejlaaGreat
namespace Go.Proofs.YtlnnchgaloejlaaGreat
open Go.ChangeShapes Go.WideShapes Go.ChangeAt Go.RowKit

set_option maxHeartbeats 1000000 in
set_option maxRecDepth 100000 in
theorem iFree_any {w : World} {a : Option Addr} {ps : List Pur} (cap : Nat) (h : Purs w a ps) (hl : ps.length ≤ 1048576) (hs : Sized (pnames ps)) :
    Calls Tryz.prog 36 #[.slice a ps.length cap] w fun e w' => e = .returned (.int .i64 (freeInV ps)) ∧ Below w.heap.size w w' := by
  have H := Lib.hid h
  have HS := Lib.hid hs
  clear h hs
  go_enter Tryz.func36, Tryz.ntmps36
  go_wp2_with (go_at_call 21; refine (iFreeIn_any _ H.out hl HS.out).mono ?_; rintro e w1 ⟨rfl, hb1⟩)
  go_ret
  exact ⟨rfl, hb1⟩

set_option maxHeartbeats 1000000 in
set_option maxRecDepth 100000 in
theorem iStaked_any {w : World} {a : Option Addr} {ps : List Mil} (cap : Nat) (h : Recs Mil.cs w a ps) (hl : ps.length ≤ 9223372036854775807) (hs : Sized (mnames ps)) :
    Calls Tryz.prog 37 #[.slice a ps.length cap] w fun e w' => e = .returned (.int .i64 (stakesV ps)) ∧ Below w.heap.size w w' := by
  have H := Lib.hid h
  have HS := Lib.hid hs
  clear h hs
  go_enter Tryz.func37, Tryz.ntmps37
  go_wp2_with (go_at_call 74; refine (iStakesIn_any _ H.out hl HS.out).mono ?_; rintro e w1 ⟨rfl, hb1⟩)
  go_ret
  exact ⟨rfl, hb1⟩

set_option maxHeartbeats 1000000 in
set_option maxRecDepth 100000 in
theorem iWaitingM_any {w : World} {a : Option Addr} {ps : List Wai} (cap : Nat) (h : Recs Wai.cs w a ps) (hl : ps.length ≤ 9223372036854775807) (hs : WSized ps) :
    Calls Tryz.prog 38 #[.slice a ps.length cap] w fun e w' => e = .returned (.int .i64 (amountInV ps)) ∧ Below w.heap.size w w' := by
  have H := Lib.hid h
  have HS := Lib.hid hs
  clear h hs
  go_enter Tryz.func38, Tryz.ntmps38
  go_wp2_with (go_at_call 75; refine (iAmountIn_any _ H.out hl HS.out).mono ?_; rintro e w1 ⟨rfl, hb1⟩)
  go_ret
  exact ⟨rfl, hb1⟩

set_option maxHeartbeats 1000000 in
set_option maxRecDepth 100000 in
theorem iSharesInM_any {w : World} {a : Option Addr} {ps : List Par} (cap : Nat) (mill : ByteArray) (h : Recs Par.cs w a ps) (hl : ps.length ≤ 9223372036854775807) (hs : PSized ps) :
    Calls Tryz.prog 62 #[.slice a ps.length cap, .string mill] w fun e w' => e = .returned (.int .i64 (sharesInV ps mill)) ∧ Below w.heap.size w w' := by
  have H := Lib.hid h
  have HS := Lib.hid hs
  clear h hs
  go_enter Tryz.func62, Tryz.ntmps62
  go_wp2_with (go_at_call 98; refine (iSharesIn_any _ _ H.out hl HS.out).mono ?_; rintro e w1 ⟨rfl, hb1⟩)
  go_ret
  exact ⟨rfl, hb1⟩

set_option maxHeartbeats 1000000 in
set_option maxRecDepth 100000 in
theorem iFreeOfM_any {w : World} {a : Option Addr} {ps : List Pur} (cap : Nat) (s : ByteArray) (h : Purs w a ps) (hl : ps.length ≤ 1048576) (hs : Sized (pnames ps)) :
    Calls Tryz.prog 40 #[.slice a ps.length cap, .string s] w fun e w' => e = .returned (.int .i64 (freeOfV ps s)) ∧ Below w.heap.size w w' := by
  have H := Lib.hid h
  have HS := Lib.hid hs
  clear h hs
  go_enter Tryz.func40, Tryz.ntmps40
  go_wp2_with (go_at_call 76; refine (iFreeOf_any _ _ H.out hl HS.out).mono ?_; rintro e w1 ⟨rfl, hb1⟩)
  go_ret
  exact ⟨rfl, hb1⟩

theorem has_free {ps : List Pur} (s : ByteArray) (hf : folkB ps = true) : (freeOfV ps s < 0) = (placeV (pnames ps) s < 0) := by
  by_cases hp : 0 ≤ placeV (pnames ps) s
  · obtain ⟨k, e, hk, -⟩ := place_hit hp
    rw [len_pn] at hk
    have h1 := freeOf_in hf e hk
    have h2 := inB_bd ((folk_true hf).2.1 k hk hk)
    rw [h1, e]
    simp only [eq_iff_iff]
    omega
  · rw [freeOf_out hp]
    simp only [eq_iff_iff]
    omega

set_option maxHeartbeats 1000000 in
set_option maxRecDepth 100000 in
theorem iHasPurse_any {w : World} {a : Option Addr} {ps : List Pur} (cap : Nat) (s : ByteArray) (h : Purs w a ps) (hl : ps.length ≤ 1048576) (hs : Sized (pnames ps)) (hf : folkB ps = true) :
    Calls Tryz.prog 39 #[.slice a ps.length cap, .string s] w fun e w' => e = .returned (.bool (decide (0 ≤ placeV (pnames ps) s))) ∧ Below w.heap.size w w' := by
  have H := Lib.hid h
  have HS := Lib.hid hs
  have HF := Lib.hid (has_free s hf)
  clear h hs hf
  go_enter Tryz.func39, Tryz.ntmps39
  go_wp2_with fail
  refine (iFreeOf_any _ _ H.out hl HS.out).mono ?_
  rintro e w1 ⟨rfl, hb1⟩
  obtain ⟨q, hq⟩ : ∃ q, placeV (pnames ps) s = q := ⟨_, rfl⟩
  obtain ⟨v, hv⟩ : ∃ v, freeOfV ps s = v := ⟨_, rfl⟩
  rw [hq, hv] at HF
  have HQ := Lib.hid hq
  rw [hv]
  clear hq hv
  have HD := Lib.hid (show decide (0 ≤ q) = decide (0 ≤ v) by have := HF.out; rw [eq_iff_iff] at this; exact decide_eq_decide.2 (by omega))
  go_wp2
  go_ret
  exact ⟨by rw [HQ.out, HD.out]; rfl, hb1⟩

set_option maxHeartbeats 1000000 in
set_option maxRecDepth 100000 in
theorem iHasMill_any {w : World} {a : Option Addr} {ms : List Mil} (cap : Nat) (s : ByteArray) (h : Recs Mil.cs w a ms) (hl : ms.length ≤ 9223372036854775807) (hs : Sized (mnames ms)) :
    Calls Tryz.prog 97 #[.slice a ms.length cap, .string s] w fun e w' => e = .returned (.bool (millInB ms s)) ∧ Below w.heap.size w w' := by
  have H := Lib.hid h
  have HS := Lib.hid hs
  clear h hs
  obtain ⟨m, HM⟩ : ∃ x, Hid (millInV ms s = x) := ⟨_, Lib.hid rfl⟩
  go_enter Tryz.func97, Tryz.ntmps97
  go_wp2_with fail
  refine (iMillIn_any _ _ H.out hl HS.out).mono ?_
  rw [HM.out]
  rintro e w1 ⟨rfl, hb1⟩
  have B1 := Lib.hid hb1
  clear hb1
  go_wp2
  go_ret
  exact ⟨rfl, below_trans B1.out (below_new _ _)⟩

set_option maxHeartbeats 2000000 in
set_option maxRecDepth 100000 in
theorem iKnows_any {w : World} {b : Bok} {s : Spots} (who mill : ByteArray) (h : BookAt w b s) (hl : BLen b) (hz : BSized b) (hf : folkB b.folk = true) (hm : millsB b.mills = true) :
    Calls Tryz.prog 61 #[.agg #[.slice s.fa b.folk.length s.fc, .slice s.ma b.mills.length s.mc, .slice s.pa b.parts.length s.pc, .slice s.wa b.waits.length s.wc], .string who, .string mill] w fun e w' => e = .returned (.bool (knownB b who mill)) ∧ Below w.heap.size w w' := by
  have X0 := Lib.hid (BoxL.new h 60)
  have B0 := Lib.hid (below_new w (.cells #[.slice s.fa b.folk.length s.fc, .slice s.ma b.mills.length s.mc, .slice s.pa b.parts.length s.pc, .slice s.wa b.waits.length s.wc] 60))
  have HL := Lib.hid hl
  have HZ := Lib.hid hz
  have HF := Lib.hid hf
  have HK : Hid (knownB b who mill = (decide (0 ≤ placeV (pnames b.folk) who) && millInB b.mills mill)) := by
    simp [Hid, knownB, millInB, hm]
  clear h hl hz hf hm
  go_enter Tryz.func61, Tryz.ntmps61
  go_wp2_with fail
  refine (iHasPurse_any _ _ X0.out.book.folk HL.out.fl HZ.out.fs HF.out).mono ?_
  rintro e w1 ⟨rfl, hb1⟩
  have X1 := Lib.hid (X0.out.below hb1)
  have B1 := Lib.hid (below_trans B0.out hb1)
  clear X0 B0 hb1
  obtain ⟨d, hd⟩ : ∃ d, decide (0 ≤ placeV (pnames b.folk) who) = d := ⟨_, rfl⟩
  rw [hd] at HK
  rw [hd]
  clear hd
  cases d
  · go_wp2
    go_ret
    exact ⟨by rw [HK.out]; rfl, B1.out⟩
  have c1 := X1.out.c1
  go_wp2_with fail
  refine (iHasMill_any _ _ X1.out.book.mills (by have := HL.out.ml; omega) HZ.out.ms).mono ?_
  rintro e w2 ⟨rfl, hb2⟩
  have B2 := Lib.hid (below_trans B1.out hb2)
  clear X1 B1 hb2 c1
  go_wp2
  go_ret
  exact ⟨by rw [HK.out]; rfl, B2.out⟩

/-- All that are named are there. -/
noncomputable def knowsB (b : Bok) : Bool := @decide (KnowsP b b.parts.length ∧ KnowsW b b.waits.length) (Classical.propDecidable _)
theorem knows_true {b : Bok} (h : knowsB b = true) : KnowsP b b.parts.length ∧ KnowsW b b.waits.length := by
  unfold knowsB at h; exact @of_decide_eq_true _ (Classical.propDecidable _) h
theorem knows_yes {b : Bok} (h1 : KnowsP b b.parts.length) (h2 : KnowsW b b.waits.length) : knowsB b = true := by
  unfold knowsB; exact @decide_eq_true _ (Classical.propDecidable _) ⟨h1, h2⟩
theorem knows_no {b : Bok} (h : ¬ (KnowsP b b.parts.length ∧ KnowsW b b.waits.length)) : knowsB b = false := by
  unfold knowsB; exact @decide_eq_false _ (Classical.propDecidable _) h
theorem knows_p {b : Bok} {k : Nat} (hk : k < b.parts.length) (h : knownB b b.parts[k].who b.parts[k].mill = false) : knowsB b = false :=
  knows_no fun ⟨h1, _⟩ => by rw [h1 k hk hk] at h; cases h
theorem knows_w {b : Bok} {k : Nat} (hk : k < b.waits.length) (h : knownB b b.waits[k].who b.waits[k].mill = false) : knowsB b = false :=
  knows_no fun ⟨_, h1⟩ => by rw [h1 k hk hk] at h; cases h
/-- All shares are held. -/
noncomputable def heldB (b : Bok) : Bool := @decide (HeldM b b.mills.length) (Classical.propDecidable _)
theorem heldM_true {b : Bok} (h : heldB b = true) : HeldM b b.mills.length := by
  unfold heldB at h; exact @of_decide_eq_true _ (Classical.propDecidable _) h
theorem heldM_yes {b : Bok} (h1 : HeldM b b.mills.length) : heldB b = true := by
  unfold heldB; exact @decide_eq_true _ (Classical.propDecidable _) h1
theorem heldM_no {b : Bok} {k : Nat} (hk : k < b.mills.length) (h : sharesInV b.parts b.mills[k].name ≠ b.mills[k].shares) : heldB b = false := by
  unfold heldB; exact @decide_eq_false _ (Classical.propDecidable _) (fun h1 => h (h1 k hk hk))
theorem there_both (b : Bok) : thereB b = (knowsB b && heldB b) := by
  cases h1 : knowsB b
  · cases h2 : thereB b
    · rfl
    · have := there_true h2
      rw [knows_yes this.1 this.2.1] at h1; cases h1
  · cases h3 : heldB b
    · cases h2 : thereB b
      · rfl
      · have := there_true h2
        rw [heldM_yes this.2.2] at h3; cases h3
    · have a := knows_true h1
      rw [there_yes a.1 a.2 (heldM_true h3)]; rfl

set_option maxHeartbeats 8000000 in
set_option maxRecDepth 100000 in
theorem iKnowsAll_any {w : World} {b : Bok} {s : Spots} (h : BookAt w b s) (hl : BLen b) (hz : BSized b) (hf : folkB b.folk = true) (hm : millsB b.mills = true) :
    Calls Tryz.prog 30 #[.agg #[.slice s.fa b.folk.length s.fc, .slice s.ma b.mills.length s.mc, .slice s.pa b.parts.length s.pc, .slice s.wa b.waits.length s.wc]] w fun e w' => e = .returned (.bool (knowsB b)) ∧ Below w.heap.size w w' := by
  obtain ⟨W, hW⟩ : ∃ W, w.alloc (.cells #[.slice s.fa b.folk.length s.fc, .slice s.ma b.mills.length s.mc, .slice s.pa b.parts.length s.pc, .slice s.wa b.waits.length s.wc] 60) = W := ⟨_, rfl⟩
  have X0 := Lib.hid (BoxL.new h 60)
  have B0 := Lib.hid (below_new w (.cells #[.slice s.fa b.folk.length s.fc, .slice s.ma b.mills.length s.mc, .slice s.pa b.parts.length s.pc, .slice s.wa b.waits.length s.wc] 60))
  rw [hW] at X0 B0
  have HL := Lib.hid hl
  have HZ := Lib.hid hz
  have HF := Lib.hid hf
  have HM := Lib.hid hm
  have l3 := hl.pl
  have l4 := hl.wl
  clear h hl hz hf hm
  have c2 := X0.out.c2
  cases s with | mk fa fc ma mc pa pc wa wc =>
  dsimp only at c2 hW ⊢
  go_enter Tryz.func30, Tryz.ntmps30
  go_wp2
  clear c2
  go_loopw [10] (fun i w' => ∃ k : Nat, k ≤ b.parts.length ∧ i = .int .i64 k ∧ Below W.heap.size W w' ∧ KnowsP b k) (fun i _ => b.parts.length - (intOf i).toNat)
  case atStart => exact ⟨0, Nat.zero_le _, rfl, Below.refl _ _, KnowsP.zero _⟩
  case round =>
    obtain ⟨k, hk, rfl, hb, hu⟩ := hrel
    have X := Lib.hid (X0.out.below hb)
    have BB := Lib.hid (below_trans B0.out hb)
    have HB := Lib.hid hb
    have HU := Lib.hid hu
    clear hb hu
    by_cases hlt : k < b.parts.length
    · obtain ⟨p, off, ep, hlb, d0, d1, d2⟩ := Par.at X.out.book.parts k hlt
      dsimp only at ep
      subst ep
      obtain ⟨V, hV⟩ : ∃ V, wr.alloc (.cells #[.string b.parts[k].who, .string b.parts[k].mill, .int .i64 b.parts[k].shares] 68) = V := ⟨_, rfl⟩
      have BV := Lib.hid (below_new wr (.cells #[.string b.parts[k].who, .string b.parts[k].mill, .int .i64 b.parts[k].shares] 68))
      have RV := Lib.hid (RecAt.new Par.cs wr b.parts[k] 68)
      rw [hV] at BV
      rw [show wr.alloc (.cells (b.parts[k].cs).toArray 68) = V from hV] at RV
      have XV := Lib.hid (X.out.below BV.out)
      have HBV := Lib.hid (below_trans HB.out BV.out)
      have BBV := Lib.hid (below_trans BB.out BV.out)
      have r0 := RV.out 0 _ rfl
      have r1 := RV.out 1 _ rfl
      have x0 := XV.out.c0
      have x1 := XV.out.c1
      have x2 := XV.out.c2
      have x3 := XV.out.c3
      dsimp only at x0 x1 x2 x3
      clear hlb
      go_wp2_with fail
      refine (iKnows_any _ _ XV.out.book HL.out HZ.out HF.out HM.out).mono ?_
      rintro e w3 ⟨rfl, hb3⟩
      cases hq : knownB b b.parts[k].who b.parts[k].mill
      · have HN := Lib.hid (knows_p hlt hq)
        have HB3 := Lib.hid (below_trans BBV.out hb3)
        clear hb3
        go_wp2
        go_ret
        exact ⟨by rw [HN.out]; rfl, HB3.out⟩
      have HN := Lib.hid (HU.out.succ hlt hq)
      have HB3 := Lib.hid (below_trans HBV.out hb3)
      clear hb3
      go_wp2
      go_roundw
      case rel => exact ⟨k + 1, by omega, by go_num, HB3.out, HN.out⟩
      case measure => simp [intOf]; omega
    obtain rfl : k = b.parts.length := by omega
    have KP := HU
    have x3 := X.out.c3
    dsimp only at x3
    clear HU hlt
    go_wp2
    go_loopw [25] (fun i w' => ∃ k : Nat, k ≤ b.waits.length ∧ i = .int .i64 k ∧ Below W.heap.size W w' ∧ KnowsW b k) (fun i _ => b.waits.length - (intOf i).toNat)
    case atStart => exact ⟨0, Nat.zero_le _, rfl, HB.out, KnowsW.zero _⟩
    case round =>
      obtain ⟨k, hk, rfl, hb, hu⟩ := hrel
      clear X HB BB x3
      have X := Lib.hid (X0.out.below hb)
      have BB := Lib.hid (below_trans B0.out hb)
      have HB := Lib.hid hb
      have HU := Lib.hid hu
      clear hb hu
      by_cases hlt : k < b.waits.length
      · obtain ⟨p, off, ep, hlb, d0, d1, d2, d3⟩ := Wai.at X.out.book.waits k hlt
        dsimp only at ep
        subst ep
        obtain ⟨V, hV⟩ : ∃ V, wr.alloc (.cells #[.string b.waits[k].who, .string b.waits[k].mill, .int .i64 b.waits[k].amount, .int .i64 b.waits[k].ripe] 74) = V := ⟨_, rfl⟩
        have BV := Lib.hid (below_new wr (.cells #[.string b.waits[k].who, .string b.waits[k].mill, .int .i64 b.waits[k].amount, .int .i64 b.waits[k].ripe] 74))
        have RV := Lib.hid (RecAt.new Wai.cs wr b.waits[k] 74)
        rw [hV] at BV
        rw [show wr.alloc (.cells (b.waits[k].cs).toArray 74) = V from hV] at RV
        have XV := Lib.hid (X.out.below BV.out)
        have HBV := Lib.hid (below_trans HB.out BV.out)
        have BBV := Lib.hid (below_trans BB.out BV.out)
        have r0 := RV.out 0 _ rfl
        have r1 := RV.out 1 _ rfl
        have x0 := XV.out.c0
        have x1 := XV.out.c1
        have x2 := XV.out.c2
        have x3 := XV.out.c3
        dsimp only at x0 x1 x2 x3
        clear hlb
        go_wp2_with fail
        refine (iKnows_any _ _ XV.out.book HL.out HZ.out HF.out HM.out).mono ?_
        rintro e w3 ⟨rfl, hb3⟩
        cases hq : knownB b b.waits[k].who b.waits[k].mill
        · have HN := Lib.hid (knows_w hlt hq)
          have HB3 := Lib.hid (below_trans BBV.out hb3)
          clear hb3
          go_wp2
          go_ret
          exact ⟨by rw [HN.out]; rfl, HB3.out⟩
        have HN := Lib.hid (HU.out.succ hlt hq)
        have HB3 := Lib.hid (below_trans HBV.out hb3)
        clear hb3
        go_wp2
        go_roundw
        case rel => exact ⟨k + 1, by omega, by go_num, HB3.out, HN.out⟩
        case measure => simp [intOf]; omega
      obtain rfl : k = b.waits.length := by omega
      have HN := Lib.hid (knows_yes KP.out HU.out)
      go_wp2
      go_ret
      exact ⟨by rw [HN.out]; rfl, BB.out⟩
end Go.Proofs.YtlnnchgaloejlaaGreat
