/-
  What the program's PartsFor answers: the library's maps.DeleteFunc over the map of parts, by the program's own closure.
-/
import Derived.Test.YtpmibegfpfjdgaaPartJ
namespace Go.Proofs.Ytpmibegfpfjdgaa
open Go.ChangeShapes Go.WideShapes Go.ChangeAt Go.RowKit

/-- The closure: is it another one's? -/
theorem iOther_any {W : World} {bx : Nat} (a m who : ByteArray) (n : Int) (hc : W.cell? ⟨bx, 0, none⟩ = some (.string who)) :
    Calls Try.prog 42 #[.agg #[.string a, .string m], .int .i64 n, .pointer (some ⟨bx, 0, none⟩)] W fun e w' => e = .returned (.bool (!(a.toList == who.toList))) ∧ Below W.heap.size W w' := by
  have hlt : bx < W.heap.size := at_lt hc
  have hd := ((below_new W (.cells #[.string a, .string m] 55)).cell (p := ⟨bx, 0, none⟩) hlt).trans hc
  go_enter Try.func42, Try.ntmps42
  go_wp2
  go_ret
  exact ⟨rfl, below_new _ _⟩

/-- The loop's word. -/
def DelRel (w : World) (b r : Nat) (ps : List Par) (who : ByteArray) (wr : World) : Prop :=
  ∃ (done todo cur : List Par), (done ++ todo).Perm ps ∧ Ranges5 wr b r cur todo ∧ cur.Perm (ofWho who done ++ todo) ∧ w.grownBy wr (some b) ∧ r < wr.heap.size
theorem without_twice (l : Lit) (xs : List Par) : without keyL l (without keyL l xs) = without keyL l xs := by
  unfold without
  rw [List.filter_filter]
  apply List.filter_congr
  intro y _
  cases (keyL y).sameKey l <;> rfl

set_option maxHeartbeats 4000000 in
set_option maxRecDepth 100000 in
theorem iDelete_any {w : World} {b bx : Nat} {ps : List Par} (who : ByteArray) (h : Holds5 w b ps) (hs : PSized ps) (hc : w.cell? ⟨bx, 0, none⟩ = some (.string who)) (hne : bx ≠ b) :
    Calls Try.prog 41 #[.map (some b), .func (.func 42) #[] #[.pointer (some ⟨bx, 0, none⟩)]] w fun e w' => e = .returned (.tuple #[]) ∧ Holds5 w' b (ofWho who ps) ∧ w.grownBy w' (some b) := by
  have hblt := h.lt
  have hxlt : bx < w.heap.size := at_lt hc
  obtain ⟨w2, hrg, hr2, hg2, hs2⟩ := h.range keyK Try.underlying58
  have HR0 : Hid (DelRel w b w.heap.size ps who w2) := ⟨[], ps, ps, by simp, hr2, by simp [ofWho], hg2.but _, by rw [hs2]; omega⟩
  have HS := Lib.hid hs
  have HC := Lib.hid hc
  have HE : Hid (Enters Try.prog 42) := enters_of Try.func42 (by kernel_rfl) rfl
  clear hr2 hg2 hs2 h hs hc
  go_enter Try.func41, Try.ntmps41
  go_wp2
  clear hrg
  go_loopw [] (fun wr => DelRel w b w.heap.size ps who wr) (fun wr => wr.rangeLeft b w.heap.size)
  case atStart => exact HR0.out
  case round =>
    clear HR0
    obtain ⟨done, todo, cur, hperm, hrg, hcur, hg, hrl⟩ := hrel
    rcases hrg.next keyK 0 with ⟨rfl, hrun⟩ | ⟨x, key, v, pl, w3, hx, hxp, hkey, hval, hrun, hrg3, hlt3, hg3, hs3, hen⟩
    · have HN : Hid (Holds5 wr b (ofWho who ps)) := by
        refine hrg.map.perm keyK (hcur.trans ?_)
        rw [List.append_nil] at hperm ⊢
        exact hperm.filter _
      have HG := Lib.hid hg
      clear hrg hcur hg hperm
      go_wp2
      go_end0
      exact ⟨rfl, HN.out, HG.out⟩
    · have hxps : x ∈ ps := hperm.mem_iff.1 (List.mem_append_right _ hx)
      obtain rfl := key_at (psized_mem.1 HS.out x hxps) hkey
      obtain rfl := sharesR_inv hval
      have hg3' : w.grownBy w3 (some b) := hg.andThen hg3 (fun j e => by injection e with e; left; omega)
      have hcw : (w3.alloc (.cells #[.string x.who, .string x.mill] 55)).cell? ⟨bx, 0, none⟩ = some (.string who) := by
        rw [(below_new w3 _).cell (p := ⟨bx, 0, none⟩) (Nat.lt_of_lt_of_le hxlt hg3'.size), grown_keeps hg3' hxlt (by intro e; injection e with e; omega)]
        exact HC.out
      have hra := RecAt.new (fun p : Par => [Value.string p.who, .string p.mill]) w3 x 55
      have hlt4 : w3.heap.size < (w3.alloc (.cells #[.string x.who, .string x.mill] 55)).heap.size := by simp
      have hr4 := hrg3.kept (World.grownBy_alloc w3 (.cells #[.string x.who, .string x.mill] 55) none) (by simp) (by simp)
      have hm4 := hrg3.left_kept (World.grownBy_alloc w3 (.cells #[.string x.who, .string x.mill] 55) none) (by simp) (by simp)
      have HRA := Lib.hid hra
      have HR4 := Lib.hid hr4
      have HM4 := Lib.hid hm4
      have HG4 := Lib.hid (show w.grownBy (w3.alloc (.cells #[.string x.who, .string x.mill] 55)) (some b) from hg3'.trans (World.grownBy_alloc w3 _ _))
      have HXS := Lib.hid (psized_mem.1 HS.out x hxps)
      have HPT := Lib.hid (hrg.part keyK hx)
      have HPM := Lib.hid hperm
      have HCU := Lib.hid hcur
      have HLT := Lib.hid hlt3
      have HCW := Lib.hid hcw
      have HL4 := Lib.hid hlt4
      have HAP := Lib.hid hrg.apart
      have HKS := Lib.hid hrg.keys
      have HXC := Lib.hid hxp
      have hbw : b < w.heap.size := hblt
      clear hra hlt4 hr4 hm4 hg3' hcw hperm hcur hrg hrg3 hg3 hs3 hlt3 hkey hval hx hxp hg hrl hxps
      go_wp2_with fail
      refine (iOther_any x.who x.mill who x.shares HCW.out).mono ?_
      rintro e w4 ⟨rfl, hb4⟩
      have hg4n : World.grownBy (w3.alloc (.cells #[.string x.who, .string x.mill] 55)) w4 none := ⟨hb4.os, hb4.tape, hb4.output, hb4.size, fun k hk _ => hb4.block k hk⟩
      have HR5 := Lib.hid (HR4.out.kept hg4n (by simp) (by simp))
      have HM5 := Lib.hid (HR4.out.left_kept hg4n (by simp) (by simp))
      have HG5 := Lib.hid (HG4.out.trans (hg4n.but (some b)))
      have hv0 : w4.cell? ⟨w3.heap.size, 0, none⟩ = some (.string x.who) := (hb4.cell (p := ⟨w3.heap.size, 0, none⟩) HL4.out).trans (HRA.out 0 _ rfl)
      have hv1 : w4.cell? ⟨w3.heap.size, 1, none⟩ = some (.string x.mill) := (hb4.cell (p := ⟨w3.heap.size, 1, none⟩) HL4.out).trans (HRA.out 1 _ rfl)
      clear hb4 hg4n
      cases hq : (x.who.toList == who.toList)
      · obtain ⟨w5, hdl, hrg5, hle5, ht5⟩ := HR5.out.drop keyK Try.underlying58 (keyOf_par HXS.out) 0
        have HR : Hid (DelRel w b w.heap.size ps who w5 ∧ w5.rangeLeft b w.heap.size < wr.rangeLeft b w.heap.size) := by
          refine ⟨⟨done ++ [x], without keyL (keyL x) todo, without keyL (keyL x) cur, ?_, ?_, ?_, HG5.out.trans ht5.grown, Nat.lt_of_lt_of_le HR5.out.lt ht5.grown.size⟩, ?_⟩
          · refine List.Perm.trans ?_ HPM.out
            rw [List.append_assoc]
            exact (List.Perm.append_left done HPT.out).symm
          · rw [without_twice] at hrg5; exact hrg5
          · have h1 : (x :: without keyL (keyL x) cur).Perm (x :: (ofWho who done ++ without keyL (keyL x) todo)) := by
              refine (without_perm keyK HAP.out HKS.out HXC.out).symm.trans (HCU.out.trans ?_)
              refine (List.Perm.append_left _ HPT.out).trans ?_
              exact List.perm_middle
            have h2 : ofWho who (done ++ [x]) = ofWho who done := by unfold ofWho; rw [List.filter_append]; simp [hq]
            rw [h2]
            exact List.Perm.cons_inv h1
          · have h1 := HM5.out
            have h2 := HM4.out
            have h3 := HLT.out
            omega
        clear hrg5 hle5 ht5
        go_wp2
        go_roundw
        case rel => exact HR.out.1
        case measure => exact HR.out.2
      · have HR : Hid (DelRel w b w.heap.size ps who w4 ∧ w4.rangeLeft b w.heap.size < wr.rangeLeft b w.heap.size) := by
          refine ⟨⟨done ++ [x], without keyL (keyL x) todo, cur, ?_, HR5.out, ?_, HG5.out, HR5.out.lt⟩, ?_⟩
          · refine List.Perm.trans ?_ HPM.out
            rw [List.append_assoc]
            exact (List.Perm.append_left done HPT.out).symm
          · have h2 : ofWho who (done ++ [x]) = ofWho who done ++ [x] := by unfold ofWho; rw [List.filter_append]; simp [hq]
            rw [h2, List.append_assoc]
            exact HCU.out.trans (List.Perm.append_left _ HPT.out)
          · have h1 := HM5.out
            have h2 := HM4.out
            have h3 := HLT.out
            omega
        go_wp2
        go_roundw
        case rel => exact HR.out.1
        case measure => exact HR.out.2

set_option maxHeartbeats 1000000 in
set_option maxRecDepth 100000 in
theorem iPartsFor_any {w : World} {a : Option Addr} {ps : List Par} (cap : Nat) (who : ByteArray) (h : Recs Par.cs w a ps) (hl : ps.length ≤ 1048576) (hs : PSized ps) :
    Calls Try.prog 16 #[.slice a ps.length cap, .string who] w (ResO Par.cs 3 (partsForV ps who) w) := by
  have H := Lib.hid (h.below (below_new w (.cells #[.string who] 9)))
  have HS := Lib.hid hs
  clear h hs
  have HPS : Hid (PSized (heldL ps)) := by
    unfold heldL
    split
    · exact HS.out
    · intro k hk; simp at hk
  have HPL : Hid ((heldL ps).length ≤ 1048576) := by
    unfold heldL
    split
    · exact hl
    · exact Nat.zero_le _
  have HEQ : Hid (ofWho who (heldL ps) = partsForV ps who) := by
    unfold heldL partsForV
    split
    · rfl
    · rfl
  have HUP : Hid ((heldL ps).Pairwise KeyLt) := by
    cases hf : partsB ps
    · rw [held_no hf]; exact List.Pairwise.nil
    · rw [held_yes hf]; exact (parts_pair.1 hf).2.2
  go_enter Try.func16, Try.ntmps16
  go_wp2_with fail
  refine (iHeld_any _ H.out HS.out (by omega)).mono ?_
  rintro e w1 ⟨b, rfl, hb, hm, hb1⟩
  have hx1 : w1.cell? ⟨w.heap.size, 0, none⟩ = some (.string who) := by
    have hlt : w.heap.size < (w.alloc (.cells #[.string who] 9)).heap.size := by simp
    exact (hb1.cell (p := ⟨w.heap.size, 0, none⟩) hlt).trans (RecAt.new (fun s : ByteArray => [Value.string s]) w who 9 0 _ rfl)
  have hbw : w.heap.size < b := by have : (w.alloc (.cells #[.string who] 9)).heap.size = w.heap.size + 1 := by simp
                                   omega
  have HB1 := Lib.hid (below_trans (below_new _ _) hb1)
  have HM1 := Lib.hid hm
  have HX1 := Lib.hid hx1
  clear hb1 hm hx1 hb
  go_wp2_with fail
  refine (iDelete_any who HM1.out HPS.out HX1.out (by omega)).mono ?_
  rintro e w2 ⟨rfl, hm2, hg2⟩
  have HB2 := Lib.hid (bgrown HB1.out HB1.out.size hg2 (fun g e => by injection e with e; omega))
  have HM2 := Lib.hid hm2
  have HP2 : Hid (PSized (ofWho who (heldL ps))) := by
    have := HPS.out
    unfold Hid
    rw [psized_mem] at this ⊢
    exact fun p hp => this p (List.mem_filter.1 hp).1
  have HL2 : Hid ((ofWho who (heldL ps)).length ≤ 1048576) := Nat.le_trans (ofWho_le _ _) HPL.out
  clear hm2 hg2
  go_wp2_with fail
  refine (iParts_any HM2.out HP2.out HL2.out).mono ?_
  rintro e w3 ⟨out, hp3, hu3, g, c3, rfl, ho3, hb3⟩
  have HN : Hid (ResO Par.cs 3 (partsForV ps who) w (.returned (.slice (some ⟨g, 0, none⟩) out.length c3)) w3) := by
    have e : out = partsForV ps who := by
      rw [← HEQ.out]
      exact up_one hp3 hu3 (HUP.out.filter _)
    subst e
    obtain ⟨a4, c4, e4, hr4, -⟩ := ownR_of Par.len ho3
    injection e4 with e4 e5 e6
    subst e4; subst e6
    exact ⟨_, _, rfl, hr4.mono HB2.out.size, below_trans HB2.out hb3⟩
  clear hp3 hu3 ho3 hb3
  go_wp2
  go_ret
  exact HN.out
end Go.Proofs.Ytpmibegfpfjdgaa
