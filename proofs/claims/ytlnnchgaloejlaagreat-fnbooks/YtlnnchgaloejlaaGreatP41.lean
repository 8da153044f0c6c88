/-
  Texts joined: DrawM, Draw5L, Draw6M, LikeB, Shar.
-/
import Derived.Test.YtlnnchgaloejlaaGreatP1
import Derived.Test.YtlnnchgaloejlaaGreatP12
import Derived.Test.YtlnnchgaloejlaaGreatP31
import Derived.Test.YtlnnchgaloejlaaGreatP37
import Derived.Test.YtlnnchgaloejlaaGreatP39
import Derived.Test.YtlnnchgaloejlaaGreatP40
import Derived.Deep.QuietTactic
import Derived.BigQuiet
import Derived.ChangeKeysEq
namespace Go.Proofs.YtlnnchgaloejlaaGreat
open Go.ChangeShapes Go.WideShapes Go.ChangeAt Go.RowKit

/-- Purses. -/
def GivesF (w : World) (e : Ending) (w' : World) : Prop :=
  ∃ (g c : Nat) (ps : List Pur), e = .returned (.slice (some ⟨g, 0, none⟩) ps.length c) ∧ Few w' g ps ∧ Below w.heap.size w w'
theorem drawFolkOk_any {a : Option Addr} {len cap : Nat} {w : World} (h : Src w a len) : Calls Tryz.prog 20 #[.slice a len cap] w (GivesF w) := by
  go_enter Tryz.func20, Tryz.ntmps20
  go_wp2_with fail
  refine (l1New_any h.row h.small).mono ?_
  rintro e w0 ⟨rfl, hc0, hb0⟩
  have HB0 := Lib.hid hb0
  clear hb0
  go_wp2_with fail
  refine (l3DrawAny_any hc0).mono ?_
  rintro e w1 ⟨g, c, ps, rfl, hw1⟩
  have HD := Lib.hid (show GivesF w (.returned (.slice (some ⟨g, 0, none⟩) ps.length c)) w1 from ⟨g, c, ps, rfl, hw1.few_, below_of HB0.out hw1.grown⟩)
  clear hw1 hc0
  go_wp2
  go_ret
  exact HD.out
theorem drawNewBook_any {a : Option Addr} {len cap : Nat} {w : World} (h : Src w a len) : Calls Tryz.prog 6 #[.slice a len cap] w (GivesF w) := by
  go_enter Tryz.func6, Tryz.ntmps6
  go_wp2_with fail
  refine (drawFolkOk_any h).mono ?_
  rintro e w1 ⟨g, c, ps, rfl, hf, hb⟩
  have HD := Lib.hid (show GivesF w (.returned (.slice (some ⟨g, 0, none⟩) ps.length c)) w1 from ⟨g, c, ps, rfl, hf, hb⟩)
  clear hf hb
  go_wp2
  go_ret
  exact HD.out
/-- A book and a name. -/
def GivesBN (w : World) (e : Ending) (w' : World) : Prop :=
  ∃ (b : Bok) (s : Spots) (who : ByteArray), e = .returned (.tuple #[.agg #[.int .i64 b.season, .int .i64 b.supply, .int .i64 b.burnt, .int .i64 b.pot, .slice s.fa b.folk.length s.fc, .slice s.ma b.mills.length s.mc, .slice s.pa b.parts.length s.pc, .slice s.wa b.waits.length s.wc], .string who]) ∧ BLen b ∧ BSized b ∧ who.size ≤ 7 ∧ BookAt w' b s ∧ Below w.heap.size w w'
set_option maxRecDepth 100000 in
set_option maxHeartbeats 16000000 in
set_option maxRecDepth 100000 in
theorem drawWorthIn_any {a : Option Addr} {len cap : Nat} {w : World} (h : Src w a len) : Calls Tryz.prog 5 #[.slice a len cap] w (GivesBN w) := by
  have bz := below_new w (.cells #[.int .i64 0, .int .i64 0, .int .i64 0, .int .i64 0, .slice none 0 0, .slice none 0 0, .slice none 0 0, .slice none 0 0] 29)
  have R := Lib.hid (OutV.new w [.int .i64 0, .int .i64 0, .int .i64 0, .int .i64 0, .slice none 0 0, .slice none 0 0, .slice none 0 0, .slice none 0 0] 29)
  obtain ⟨W1, hW1⟩ : ∃ W, w.alloc (.cells #[.int .i64 0, .int .i64 0, .int .i64 0, .int .i64 0, .slice none 0 0, .slice none 0 0, .slice none 0 0, .slice none 0 0] 29) = W := ⟨_, rfl⟩
  rw [show w.alloc (.cells ([.int .i64 0, .int .i64 0, .int .i64 0, .int .i64 0, .slice none 0 0, .slice none 0 0, .slice none 0 0, .slice none 0 0] : List Value).toArray 29) = W1 from hW1] at R
  rw [hW1] at bz
  have hS := h.kept bz
  have HB := Lib.hid bz
  have HSR := Lib.hid hS
  clear bz hS h
  go_enter Tryz.func5, Tryz.ntmps5
  go_wp2_with fail
  refine (l1New_any HSR.out.row HSR.out.small).mono ?_
  rintro e w0 ⟨rfl, hc0, hb0⟩
  have hC : W1.heap.size < w0.heap.size := lt_of_cell hc0.c0
  replace R := Lib.hid (R.out.below hb0)
  have hlt := R.out.lt
  have hWR : W1.heap.size ≠ w.heap.size := by have := HB.out.size; have := hW1 ▸ (show w.heap.size < (w.alloc (.cells #[.int .i64 0, .int .i64 0, .int .i64 0, .int .i64 0, .slice none 0 0, .slice none 0 0, .slice none 0 0, .slice none 0 0] 29)).heap.size by simp); omega
  have HB0 := Lib.hid (below_trans HB.out hb0)
  clear hb0 hW1
  go_wp2_with fail
  refine (l7DrawAny_any hc0).mono ?_
  rintro e w2 ⟨b, s, hbl, hbz, rfl, ho, hc, hg⟩
  have HL := Lib.hid hbl
  have HZ := Lib.hid hbz
  replace R := Lib.hid (R.out.keep hg hWR)
  have bn := below_new w2 (.cells #[.int .i64 b.season, .int .i64 b.supply, .int .i64 b.burnt, .int .i64 b.pot, .slice s.fa b.folk.length s.fc, .slice s.ma b.mills.length s.mc, .slice s.pa b.parts.length s.pc, .slice s.wa b.waits.length s.wc] 29)
  have X := Lib.hid (OutV.new w2 (#[.int .i64 b.season, .int .i64 b.supply, .int .i64 b.burnt, .int .i64 b.pot, .slice s.fa b.folk.length s.fc, .slice s.ma b.mills.length s.mc, .slice s.pa b.parts.length s.pc, .slice s.wa b.waits.length s.wc] : Array Value).toList 29)
  have HO := Lib.hid (ho.below bn)
  have HC := Lib.hid (hc.kept bn)
  replace R := Lib.hid (R.out.below bn)
  have HG := Lib.hid (grown_new hg (.cells #[.int .i64 b.season, .int .i64 b.supply, .int .i64 b.burnt, .int .i64 b.pot, .slice s.fa b.folk.length s.fc, .slice s.ma b.mills.length s.mc, .slice s.pa b.parts.length s.pc, .slice s.wa b.waits.length s.wc] 29))
  obtain ⟨W3, hW3⟩ : ∃ W, w2.alloc (.cells #[.int .i64 b.season, .int .i64 b.supply, .int .i64 b.burnt, .int .i64 b.pot, .slice s.fa b.folk.length s.fc, .slice s.ma b.mills.length s.mc, .slice s.pa b.parts.length s.pc, .slice s.wa b.waits.length s.wc] 29) = W := ⟨_, rfl⟩
  have hgs := hg.size
  rw [show w2.alloc (.cells ((#[.int .i64 b.season, .int .i64 b.supply, .int .i64 b.burnt, .int .i64 b.pot, .slice s.fa b.folk.length s.fc, .slice s.ma b.mills.length s.mc, .slice s.pa b.parts.length s.pc, .slice s.wa b.waits.length s.wc] : Array Value).toList).toArray 29) = W3 from hW3] at X
  rw [hW3] at HO HC R HG
  clear hbl hbz ho hc hg bn hc0
  have x0 := X.out.has 0 _ rfl
  have x1 := X.out.has 1 _ rfl
  have x2 := X.out.has 2 _ rfl
  have x3 := X.out.has 3 _ rfl
  have x4 := X.out.has 4 _ rfl
  have x5 := X.out.has 5 _ rfl
  have x6 := X.out.has 6 _ rfl
  have x7 := X.out.has 7 _ rfl
  have hCX : W1.heap.size ≠ w2.heap.size := by omega
  have hCO : W1.heap.size < w0.heap.size := hC
  have hRO : w.heap.size < w0.heap.size := hlt
  have hle := HB.out.size
  have HBG := Lib.hid (HB0.out.trans (grown_below HG.out hle HB0.out.size))
  go_wp2_with fail
  go_region_with (go_at_call 19; refine (l2DrawAny_any (HC.out.kept (below_draws (Below.refl _ _) 1))).mono ?_; rintro e w4 ⟨who, hwho, rfl, hc, hg⟩; have hg4 := undrew hg; have hx4 := X.out.keep hg4 hCX; have hr4 := R.out.keep hg4 hWR; have y0 := hx4.has 0 _ rfl; have y1 := hx4.has 1 _ rfl; have y2 := hx4.has 2 _ rfl; have y3 := hx4.has 3 _ rfl; have y4 := hx4.has 4 _ rfl; have y5 := hx4.has 5 _ rfl; have y6 := hx4.has 6 _ rfl; have y7 := hx4.has 7 _ rfl; have r0 := hr4.has 0 _ rfl; have r1 := hr4.has 1 _ rfl; have r2 := hr4.has 2 _ rfl; have r3 := hr4.has 3 _ rfl; have r4 := hr4.has 4 _ rfl; have r5 := hr4.has 5 _ rfl; have r6 := hr4.has 6 _ rfl; have r7 := hr4.has 7 _ rfl; have rf := hr4.free; have rlt := hr4.lt; have HE := Lib.hid (show GivesBN w (.returned (.tuple #[.agg #[.int .i64 b.season, .int .i64 b.supply, .int .i64 b.burnt, .int .i64 b.pot, .slice s.fa b.folk.length s.fc, .slice s.ma b.mills.length s.mc, .slice s.pa b.parts.length s.pc, .slice s.wa b.waits.length s.wc], .string who])) (putB w4 w.heap.size b s) from ⟨b, s, who, rfl, HL.out, HZ.out, hwho, ((HO.out.grown hg4 hCO).grown (putB_grown _ _ _ _) hRO).at, putB_below (HBG.out.trans (grown_below hg4 hle (Nat.le_trans HB0.out.size HG.out.size))) (Nat.le_refl _) _ _⟩); clear hc hg hg4 hx4 hr4 hwho)
  all_goals
    unfold putB at HE
    go_wp2
    exact bodyPost_ret (v := .tuple #[.agg #[.int .i64 b.season, .int .i64 b.supply, .int .i64 b.burnt, .int .i64 b.pot, .slice s.fa b.folk.length s.fc, .slice s.ma b.mills.length s.mc, .slice s.pa b.parts.length s.pc, .slice s.wa b.waits.length s.wc], .string who]) (by simp [results, Tryz.results5, go_sem, r0, r1, r2, r3, r4, r5, r6, r7]) rfl HE.out
end Go.Proofs.YtlnnchgaloejlaaGreat
namespace Go.Proofs.YtlnnchgaloejlaaGreat
open Go.ChangeShapes Go.WideShapes Go.ChangeAt Go.RowKit

set_option maxHeartbeats 1000000 in
set_option maxRecDepth 100000 in
/-- Both lists hold the same parts: it says so. -/
theorem likeParts_same {w : World} {a a' : Option Addr} {ps : List Par} (cap cap' : Nat) (h : Recs Par.cs w a ps) (h' : Recs Par.cs w a' ps) (hl : ps.length ≤ 1048576) :
    Calls Tryz.prog 26 #[.slice a ps.length cap, .slice a' ps.length cap'] w fun e w' => e = .returned (.bool true) ∧ Below w.heap.size w w' := by
  have H := Lib.hid h
  have H' := Lib.hid h'
  clear h h'
  go_enter Tryz.func26, Tryz.ntmps26
  go_wp2
  go_loopw [5] (fun i w' => ∃ (k n : Nat), k ≤ ps.length ∧ i = .int .i64 k ∧ w' = w.drewN n) (fun i _ => ps.length - (intOf i).toNat)
  case atStart => exact ⟨0, 0, Nat.zero_le _, rfl, rfl⟩
  case round =>
    obtain ⟨k, n, hk, rfl, rfl⟩ := hrel
    by_cases hlt : k < ps.length
    · obtain ⟨b, off, rfl, _, hc, hc1, hc2⟩ := Par.at H.out k hlt
      obtain ⟨b', off', rfl, _, hc', hc1', hc2'⟩ := Par.at H'.out k hlt
      go_wp2
      go_quiet (fail)
      go_wp2
      go_roundw
      case rel => exact ⟨k + 1, _, by omega, by go_num, rfl⟩
      case measure => simp [intOf]; omega
    · go_wp2
      go_ret
      exact ⟨rfl, below_draws (Below.refl _ _) n⟩
end Go.Proofs.YtlnnchgaloejlaaGreat
namespace Go.Proofs.YtlnnchgaloejlaaGreat
open Go.ChangeShapes Go.WideShapes Go.ChangeAt Go.RowKit

set_option maxHeartbeats 1000000 in
set_option maxRecDepth 100000 in
/-- Both lists hold the same: it says so. -/
theorem likeWaits_same {w : World} {a a' : Option Addr} {ps : List Wai} (cap cap' : Nat) (h : Recs Wai.cs w a ps) (h' : Recs Wai.cs w a' ps) (hl : ps.length ≤ 1048576) :
    Calls Tryz.prog 27 #[.slice a ps.length cap, .slice a' ps.length cap'] w fun e w' => e = .returned (.bool true) ∧ Below w.heap.size w w' := by
  have H := Lib.hid h
  have H' := Lib.hid h'
  clear h h'
  go_enter Tryz.func27, Tryz.ntmps27
  go_wp2
  go_loopw [5] (fun i w' => ∃ (k n : Nat), k ≤ ps.length ∧ i = .int .i64 k ∧ w' = w.drewN n) (fun i _ => ps.length - (intOf i).toNat)
  case atStart => exact ⟨0, 0, Nat.zero_le _, rfl, rfl⟩
  case round =>
    obtain ⟨k, n, hk, rfl, rfl⟩ := hrel
    by_cases hlt : k < ps.length
    · obtain ⟨b, off, rfl, _, hc, hc1, hc2, hc3⟩ := Wai.at H.out k hlt
      obtain ⟨b', off', rfl, _, hc', hc1', hc2', hc3'⟩ := Wai.at H'.out k hlt
      go_wp2
      go_quiet (fail)
      go_wp2
      go_roundw
      case rel => exact ⟨k + 1, _, by omega, by go_num, rfl⟩
      case measure => simp [intOf]; omega
    · go_wp2
      go_ret
      exact ⟨rfl, below_draws (Below.refl _ _) n⟩

end Go.Proofs.YtlnnchgaloejlaaGreat
namespace Go.Proofs.YtlnnchgaloejlaaGreat
open Go.ChangeShapes Go.WideShapes Go.ChangeAt Go.RowKit

set_option maxRecDepth 100000 in
set_option maxHeartbeats 16000000 in
set_option maxRecDepth 100000 in
theorem likeBook_same {w : World} {b : Bok} {s s' : Spots} (h : BookAt w b s) (h' : BookAt w b s') (hl : BLen b) (hm : b.mills.length = 0) :
    Calls Tryz.prog 9 #[.agg #[.int .i64 b.season, .int .i64 b.supply, .int .i64 b.burnt, .int .i64 b.pot, .slice s.fa b.folk.length s.fc, .slice s.ma b.mills.length s.mc, .slice s.pa b.parts.length s.pc, .slice s.wa b.waits.length s.wc], .agg #[.int .i64 b.season, .int .i64 b.supply, .int .i64 b.burnt, .int .i64 b.pot, .slice s'.fa b.folk.length s'.fc, .slice s'.ma b.mills.length s'.mc, .slice s'.pa b.parts.length s'.pc, .slice s'.wa b.waits.length s'.wc]] w fun e w' => e = .returned (.bool true) ∧ Below w.heap.size w w' := by
  have HH := Lib.hid h
  have HG := Lib.hid h'
  have HL := Lib.hid hl
  have HM := Lib.hid hm
  clear h h' hl hm
  have XC := Lib.hid (CellB.new w b s 29)
  have D := Lib.hid (below_new w (.cells #[.int .i64 b.season, .int .i64 b.supply, .int .i64 b.burnt, .int .i64 b.pot, .slice s.fa b.folk.length s.fc, .slice s.ma b.mills.length s.mc, .slice s.pa b.parts.length s.pc, .slice s.wa b.waits.length s.wc] 29))
  obtain ⟨W0, hW0⟩ : ∃ W, w.alloc (.cells #[.int .i64 b.season, .int .i64 b.supply, .int .i64 b.burnt, .int .i64 b.pot, .slice s.fa b.folk.length s.fc, .slice s.ma b.mills.length s.mc, .slice s.pa b.parts.length s.pc, .slice s.wa b.waits.length s.wc] 29) = W := ⟨_, rfl⟩
  have hs0 : W0.heap.size = w.heap.size + 1 := by rw [← hW0]; simp
  rw [hW0] at XC D
  have YC := Lib.hid (CellB.new W0 b s' 29)
  have bz := below_new W0 (.cells #[.int .i64 b.season, .int .i64 b.supply, .int .i64 b.burnt, .int .i64 b.pot, .slice s'.fa b.folk.length s'.fc, .slice s'.ma b.mills.length s'.mc, .slice s'.pa b.parts.length s'.pc, .slice s'.wa b.waits.length s'.wc] 29)
  obtain ⟨W1, hW1⟩ : ∃ W, W0.alloc (.cells #[.int .i64 b.season, .int .i64 b.supply, .int .i64 b.burnt, .int .i64 b.pot, .slice s'.fa b.folk.length s'.fc, .slice s'.ma b.mills.length s'.mc, .slice s'.pa b.parts.length s'.pc, .slice s'.wa b.waits.length s'.wc] 29) = W := ⟨_, rfl⟩
  rw [hW1, hs0] at YC
  rw [hW1] at bz
  replace XC := Lib.hid (XC.out.below bz)
  replace D := Lib.hid (below_trans D.out bz)
  clear bz
  have x0 := XC.out.c0
  have x1 := XC.out.c1
  have x2 := XC.out.c2
  have x3 := XC.out.c3
  have x4 := XC.out.c4
  have y0 := YC.out.c0
  have y1 := YC.out.c1
  have y2 := YC.out.c2
  have y3 := YC.out.c3
  have y4 := YC.out.c4
  go_enter Tryz.func9, Tryz.ntmps9
  go_wp2_with fail
  refine (likeFolk_same _ _ (HH.out.folk.below D.out) (HG.out.folk.below D.out) HL.out.fl).mono ?_
  rintro e w2 ⟨rfl, n, rfl⟩
  have hb := below_draws (Below.refl W1.heap.size W1) n
  replace XC := Lib.hid (XC.out.below hb)
  replace YC := Lib.hid (YC.out.below hb)
  replace D := Lib.hid (below_trans D.out hb)
  clear hb x0 x1 x2 x3 x4 y0 y1 y2 y3 y4
  obtain ⟨V, hV⟩ : ∃ V, W1.drewN n = V := ⟨_, rfl⟩
  rw [hV] at XC YC D
  rw [hV]
  clear hV
  have x5 := XC.out.c5
  have x6 := XC.out.c6
  have y5 := YC.out.c5
  have y6 := YC.out.c6
  rw [HM.out] at x5 y5
  go_wp2_with fail
  refine (likeParts_same _ _ (HH.out.parts.below D.out) (HG.out.parts.below D.out) HL.out.pl).mono ?_
  rintro e w3 ⟨rfl, hb⟩
  replace XC := Lib.hid (XC.out.below hb)
  replace YC := Lib.hid (YC.out.below hb)
  replace D := Lib.hid (below_trans D.out hb)
  clear hb x5 x6 y5 y6
  have x7 := XC.out.c7
  have y7 := YC.out.c7
  go_wp2_with fail
  refine (likeWaits_same _ _ (HH.out.waits.below D.out) (HG.out.waits.below D.out) HL.out.wl).mono ?_
  rintro e w4 ⟨rfl, hb⟩
  replace XC := Lib.hid (XC.out.below hb)
  replace D := Lib.hid (below_trans D.out hb)
  clear hb x7 y7
  have x5 := XC.out.c5
  rw [HM.out] at x5
  go_wp2
  go_loopw [5] (fun i w' => i = .int .i64 0 ∧ w' = w4) (fun _ _ => 0)
  case atStart => exact ⟨rfl, rfl⟩
  case round =>
    obtain ⟨rfl, rfl⟩ := hrel
    go_wp2
    go_ret
    exact ⟨rfl, D.out⟩
end Go.Proofs.YtlnnchgaloejlaaGreat
namespace Go.Proofs.YtlnnchgaloejlaaGreat
open Go.ChangeShapes Go.WideShapes Go.ChangeAt Go.RowKit

set_option maxRecDepth 100000 in
theorem eq_share (x y u v : Int) (w : World) :
    (Op.equalIn 10000 133 (.agg #[.int .i64 x, .int .i64 y]) (.agg #[.int .i64 u, .int .i64 v])).run Tryz.prog w = .ok (x == u && y == v) w := by
  obtain ⟨i, hi⟩ : ∃ i, Tryz.prog.info? 2 = some i := ⟨_, rfl⟩
  have hc : Tryz.prog.cellsOf 2 = 1 := by kernel_rfl
  have hk : Tryz.prog.plainKey 2 = true := by kernel_rfl
  rw [run_equalIn_array w 9999 _ _ Tryz.underlying133 hi, hc]
  have hr : List.range 2 = [0, 1] := rfl
  rw [hr]
  have p0 : ∀ a b : Int, (part 2 #[.int .i64 a, .int .i64 b] (0 * 1)).run Tryz.prog w = .ok (.int .i64 a) w := fun a b => run_part_plain w hk rfl
  have p1 : ∀ a b : Int, (part 2 #[.int .i64 a, .int .i64 b] (1 * 1)).run Tryz.prog w = .ok (.int .i64 b) w := fun a b => run_part_plain w hk rfl
  have he : ∀ a b : Int, (Op.equalIn 9999 2 (.int .i64 a) (.int .i64 b)).run Tryz.prog w = .ok (a == b) w := fun a b => run_equalIn_int w 9998 _ _ .i64 a b Tryz.underlying2
  simp only [Op.eqItems, Sem.run_bind, p0, he, Result.andThen_ok]
  cases h0 : (x == u) <;> cases h1 : (y == v) <;> simp [p1, he, h1]
end Go.Proofs.YtlnnchgaloejlaaGreat
