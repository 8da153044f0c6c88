/-
  Texts joined: PartH, PartJ, PartL, CmpI, WaitJ.
-/
import Derived.Test.YtlnnchgaloejlaaGreatP9
import Derived.Test.YtlnnchgaloejlaaGreatP17
import Derived.Test.YtlnnchgaloejlaaGreatP43
import Derived.Carry
namespace Go.Proofs.YtlnnchgaloejlaaGreat
open Go.ChangeShapes Go.WideShapes Go.ChangeAt Go.RowKit

/-- What the map holds behind the first k. -/
noncomputable def accK (ps : List Par) : Nat → List Par
  | 0 => []
  | k + 1 => patn ps k :: without keyL (keyL (patn ps k)) (accK ps k)
theorem accK_sub (ps : List Par) : ∀ k, k ≤ ps.length → ∀ p ∈ accK ps k, p ∈ ps
  | 0, _, p, hp => by cases hp
  | k + 1, hk, p, hp => by
    rcases List.mem_cons.1 hp with rfl | hp
    · rw [patn_eq (by omega)]; exact List.getElem_mem _
    · exact accK_sub ps k (by omega) p ((without_sub _ _).subset hp)
theorem accK_len (ps : List Par) : ∀ k, (accK ps k).length ≤ k
  | 0 => Nat.le_refl _
  | k + 1 => by
    have h1 := accK_len ps k
    have h2 := (without_sub (kl := keyL) (keyL (patn ps k)) (accK ps k)).length_le
    simp only [accK, List.length_cons]
    omega
theorem accK_sized {ps : List Par} (hs : PSized ps) (k : Nat) (hk : k ≤ ps.length) : PSized (accK ps k) := by
  rw [psized_mem] at hs ⊢
  exact fun p hp => hs p (accK_sub ps k hk p hp)
theorem keys_of {ps : List Par} (hs : PSized ps) : ∀ p ∈ ps, Maps.KeysOf Tryz.prog 129 (keyL p) := fun p hp => ⟨_, keyOf_par (psized_mem.1 hs p hp)⟩
/-- Of a list that rises nothing is lost. -/
theorem accK_up {ps : List Par} (hs : PSized ps) (hu : ps.Pairwise KeyLt) : ∀ k, k ≤ ps.length → accK ps k = (ps.take k).reverse
  | 0, _ => by simp [accK]
  | k + 1, hk => by
    have hk' : k < ps.length := by omega
    have ih := accK_up hs hu k (by omega)
    have ha := up_apart hs hu
    rw [accK, patn_eq hk', without_none keyK (fun p hp => keys_of hs p (accK_sub ps k (by omega) p hp)), ih, List.take_succ_eq_append_getElem hk', List.reverse_append]
    · rfl
    · intro p hp e
      rw [ih, List.mem_reverse] at hp
      obtain ⟨j, hj, rfl⟩ := List.getElem_of_mem hp
      rw [List.length_take] at hj
      rw [List.getElem_take] at e
      exact (List.pairwise_iff_getElem.1 ha) j k (by omega) hk' (by omega) e

/-- What it holds. -/
noncomputable def heldL (ps : List Par) : List Par := if partsB ps = true then ps else []
theorem held_yes {ps : List Par} (h : partsB ps = true) : heldL ps = ps := by rw [heldL, if_pos h]
theorem held_no {ps : List Par} (h : partsB ps = false) : heldL ps = [] := by rw [heldL, if_neg (by rw [h]; decide)]
def HeldRes (ps : List Par) (w : World) (e : Ending) (w' : World) : Prop :=
  ∃ b, e = .returned (.tuple #[.map (some b), .bool (partsB ps)]) ∧ w.heap.size ≤ b ∧ Holds5 w' b (heldL ps) ∧ Below w.heap.size w w'

theorem store_step {W w4 : World} {b : Nat} {qs : List Par} {p : Par} (hm : Holds5 W b qs) (hb : Below W.heap.size W w4) (hs : p.who.size ≤ maxLen ∧ p.mill.size ≤ maxLen) (hn : qs.length < maxLen) :
    ∃ w5, (Instr.mapUpdate 122 (.map (some b)) (.agg #[.string p.who, .string p.mill]) (.int .i64 p.shares)).run Tryz.prog w4 = .ok () w5 ∧ Holds5 w5 b (p :: without keyL (keyL p) qs) ∧ w4.grownBy w5 (some b) := by
  obtain ⟨w5, h1, h2, h3⟩ := MapIs.store keyK Tryz.underlying122 (hm.below hb hm.lt) hn (x := p) (keyOf_par hs) (show sharesR (.int .i64 p.shares) = some (sharesD p, []) from rfl)
  exact ⟨w5, h1, h2, h3.grown⟩

set_option maxHeartbeats 4000000 in
set_option maxRecDepth 100000 in
theorem iHeld_any {w : World} {a : Option Addr} {ps : List Par} (cap : Nat) (h : Recs Par.cs w a ps) (hs : PSized ps) (hl : ps.length ≤ 9223372036854775807) :
    Calls Tryz.prog 102 #[.slice a ps.length cap] w (HeldRes ps w) := by
  have hmm := @run_makeMap Tryz.prog
  have H := Lib.hid h
  have HS := Lib.hid hs
  clear h hs
  by_cases h20 : ps.length ≤ 20
  · have HM0 := Lib.hid (MapIs.made (P := Tryz.prog) (k := 129) (R := sharesR) (kl := keyL) (vd := sharesD) w)
    go_enter Tryz.func102, Tryz.ntmps102
    go_wp2
    clear hmm
    go_loopw [14] (fun i wr => ∃ k : Nat, k ≤ ps.length ∧ i = .int .i64 k ∧ Holds5 wr w.heap.size (accK ps k) ∧ Below w.heap.size w wr) (fun i _ => ps.length - (intOf i).toNat)
    case atStart => exact ⟨0, Nat.zero_le _, rfl, HM0.out, below_new _ _⟩
    case round =>
      clear HM0
      obtain ⟨k, hk, rfl, hm, hb⟩ := hrel
      have HB := Lib.hid hb
      have HM := Lib.hid hm
      clear hb hm
      by_cases hlt : k < ps.length
      · obtain ⟨b1, off, rfl, hlb, c0, c1, c2⟩ := Par.at (H.out.below HB.out) k hlt
        go_wp2_with fail
        obtain ⟨W3, hW3⟩ : ∃ W3, wr.alloc (.cells #[.string ps[k].who, .string ps[k].mill, .int .i64 ps[k].shares] 68) = W3 := ⟨_, rfl⟩
        have hra := RecAt.new Par.cs wr ps[k] 68
        have d0 : W3.cell? ⟨wr.heap.size, 0, none⟩ = some (.string ps[k].who) := by rw [← hW3]; exact hra 0 _ rfl
        have d1 : W3.cell? ⟨wr.heap.size, 1, none⟩ = some (.string ps[k].mill) := by rw [← hW3]; exact hra 1 _ rfl
        have d2 : W3.cell? ⟨wr.heap.size, 2, none⟩ = some (.int .i64 ps[k].shares) := by rw [← hW3]; exact hra 2 _ rfl
        have HB3 : Hid (Below w.heap.size w W3.drew) := by rw [← hW3]; exact below_draws (below_trans HB.out (below_new _ _)) 1
        have HM3 : Hid (Holds5 W3.drew w.heap.size (accK ps k)) := by rw [← hW3]; exact HM.out.below (below_draws (below_new _ _) 1) HM.out.lt
        have HLT : Hid (wr.heap.size < W3.drew.heap.size) := by rw [← hW3]; show wr.heap.size < (wr.alloc _).heap.size; simp
        have HD2 : Hid (W3.drew.cell? ⟨wr.heap.size, 2, none⟩ = some (.int .i64 ps[k].shares)) := d2
        have HLN : Hid ((accK ps k).length < maxLen) := by have := accK_len ps k; unfold Hid maxLen; omega
        have HAK : Hid (ps[k] :: without keyL (keyL ps[k]) (accK ps k) = accK ps (k + 1)) := by unfold Hid; rw [accK, patn_eq hlt]
        rw [hW3]
        clear hW3 hra c0 c1 c2 HM HB
        go_region_with (first | (go_at_call 138; refine (iKey_any ps[k] _).mono ?_; rintro e w4 ⟨rfl, hb4⟩; obtain ⟨w5, hup, hm5, hg5⟩ := store_step HM3.out hb4 (HS.out k hlt) HLN.out; have e2 := (hb4.cell (p := ⟨wr.heap.size, 2, none⟩) HLT.out).trans HD2.out; have HR5 : Hid (Holds5 w5 w.heap.size (accK ps (k + 1)) ∧ Below w.heap.size w w5) := ⟨(by rw [← HAK.out]; exact hm5), bgrown (below_trans HB3.out hb4) (Nat.le_trans HB3.out.size hb4.size) hg5 (fun g e => (by injection e with e; omega))⟩; clear hb4 hm5 hg5))
        all_goals
          go_wp2
          go_roundw
          case rel => exact ⟨k + 1, by omega, by go_num, HR5.out.1, HR5.out.2⟩
          case measure => simp [intOf]; omega
      · obtain rfl : k = ps.length := by omega
        have HAL := Lib.hid (accK_len ps ps.length)
        go_wp2_with fail
        refine (iAreOf_any _ HM.out (H.out.below HB.out) HS.out (accK_sized HS.out _ (Nat.le_refl _)) (by omega) (by have := HAL.out; omega)).mono ?_
        rintro e w2 ⟨r, rfl, hr, hb2⟩
        have HB2 := Lib.hid (below_trans HB.out hb2)
        have HM2 := Lib.hid (HM.out.below hb2 HM.out.lt)
        have HRP : Hid (r = partsB ps) := by
          apply Bool.eq_iff_iff.2
          rw [hr, parts_pair]
          constructor
          · rintro ⟨h1, -, h2⟩; exact ⟨h20, h1, h2⟩
          · rintro ⟨-, h1, h2⟩
            refine ⟨h1, ?_, h2⟩
            rw [accK_up HS.out h2 _ (Nat.le_refl _), List.take_length]
            exact (List.reverse_perm ps).symm
        clear hr hb2 HM HB
        cases r
        · obtain ⟨w3, hcl, hm3, ht3⟩ := HM2.out.clear Tryz.underlying122 0
          have HN : Hid (HeldRes ps w (.returned (.tuple #[.map (some w.heap.size), .bool false])) w3) :=
            ⟨_, by rw [HRP.out], Nat.le_refl _, by rw [held_no HRP.out.symm]; exact hm3, bgrown HB2.out HB2.out.size ht3.grown (fun g e => by injection e with e; omega)⟩
          clear hm3 ht3
          go_wp2
          go_ret2
          exact HN.out
        · have HN : Hid (HeldRes ps w (.returned (.tuple #[.map (some w.heap.size), .bool true])) w2) := by
            refine ⟨_, by rw [HRP.out], Nat.le_refl _, ?_, HB2.out⟩
            rw [held_yes HRP.out.symm]
            refine HM2.out.perm keyK ?_
            rw [accK_up HS.out (parts_pair.1 HRP.out.symm).2.2 _ (Nat.le_refl _), List.take_length]
            exact List.reverse_perm ps
          go_wp2
          go_ret2
          exact HN.out
  · have HN : Hid (HeldRes ps w (.returned (.tuple #[.map (some w.heap.size), .bool false])) (w.alloc (.map #[] 0))) := by
      have hp := parts_long h20
      exact ⟨_, by rw [hp], Nat.le_refl _, by rw [held_no hp]; exact MapIs.made w, below_new _ _⟩
    have hgt : (20 : Int) < (ps.length : Int) := by omega
    go_enter Tryz.func102, Tryz.ntmps102
    go_wp2
    go_ret2
    exact HN.out
end Go.Proofs.YtlnnchgaloejlaaGreat
namespace Go.Proofs.YtlnnchgaloejlaaGreat
open Go.ChangeShapes Go.WideShapes Go.ChangeAt Go.RowKit

set_option maxHeartbeats 1000000 in
set_option maxRecDepth 100000 in
theorem iPartsOk_any {w : World} {a : Option Addr} {ps : List Par} (cap : Nat) (h : Recs Par.cs w a ps) (hl : ps.length ≤ 9223372036854775807) (hs : PSized ps) :
    Calls Tryz.prog 72 #[.slice a ps.length cap] w fun e w' => e = .returned (.bool (partsB ps)) ∧ Below w.heap.size w w' := by
  have H := Lib.hid h
  have HS := Lib.hid hs
  clear h hs
  go_enter Tryz.func72, Tryz.ntmps72
  go_wp2_with fail
  refine (iHeld_any _ H.out HS.out hl).mono ?_
  rintro e w1 ⟨b, rfl, hb, hm, hb1⟩
  have HB1 := Lib.hid hb1
  clear hb1 hm
  go_wp2
  go_ret
  exact ⟨rfl, HB1.out⟩

theorem sum_bd {mill : ByteArray} : ∀ {acc : List Par}, (∀ p ∈ acc, partB p = true) → 0 ≤ (acc.map (valM mill)).sum ∧ (acc.map (valM mill)).sum ≤ 1000000000 * acc.length
  | [], _ => by simp
  | p :: r, h => by
    have h1 := sum_bd (mill := mill) (acc := r) (fun q hq => h q (by simp [hq]))
    have h2 := part_bd1 (h p (by simp))
    have h3 : 0 ≤ valM mill p ∧ valM mill p ≤ 1000000000 := by unfold valM; split <;> omega
    simp only [List.map_cons, List.sum_cons, List.length_cons]
    omega
theorem sum_perm {mill : ByteArray} {xs ys : List Par} (h : xs.Perm ys) : (xs.map (valM mill)).sum = (ys.map (valM mill)).sum := by
  induction h with
  | nil => rfl
  | cons x _ ih => simp [ih]
  | swap x y l => simp only [List.map_cons, List.sum_cons]; omega
  | trans _ _ h1 h2 => exact h1.trans h2

/-- The loop's word. -/
def SumRel (w : World) (b r : Nat) (ps : List Par) (mill : ByteArray) (v : Value) (wr : World) : Prop :=
  ∃ (acc todo : List Par), v = .int .i64 (acc.map (valM mill)).sum ∧ Ranges5 wr b r ps todo ∧ (acc ++ todo).Perm ps ∧ Below w.heap.size w wr

set_option maxHeartbeats 4000000 in
set_option maxRecDepth 100000 in
theorem iSharesIn_any {w : World} {a : Option Addr} {ps : List Par} (cap : Nat) (mill : ByteArray) (h : Recs Par.cs w a ps) (hl : ps.length ≤ 9223372036854775807) (hs : PSized ps) :
    Calls Tryz.prog 98 #[.slice a ps.length cap, .string mill] w fun e w' => e = .returned (.int .i64 (sharesInV ps mill)) ∧ Below w.heap.size w w' := by
  have H := Lib.hid h
  have HS := Lib.hid hs
  clear h hs
  go_enter Tryz.func98, Tryz.ntmps98
  go_wp2_with fail
  refine (iHeld_any _ H.out HS.out hl).mono ?_
  rintro e w1 ⟨b, rfl, hb, hm, hb1⟩
  have HB1 := Lib.hid hb1
  have HH := Lib.hid hm
  clear hb1 hm
  cases hf : partsB ps
  · have HN := Lib.hid (show sharesInV ps mill = -1 by simp [sharesInV, hf])
    go_wp2
    go_ret
    exact ⟨by rw [HN.out]; rfl, HB1.out⟩
  · have HN := Lib.hid (sharesIn_eq hf mill)
    have HP := Lib.hid (parts_pair.1 hf)
    have HH2 : Hid (Holds5 w1 b ps) := by have := HH.out; rw [held_yes hf] at this; exact this
    obtain ⟨w2, hrg, hr2, hg2, hs2⟩ := HH2.out.range keyK Tryz.underlying122
    have HR0 : Hid (SumRel w b w1.heap.size ps mill (.int .i64 0) w2) := ⟨[], ps, rfl, hr2, by simp, bgrown HB1.out HB1.out.size hg2 (by simp)⟩
    have hblt : b < w1.heap.size := HH2.out.lt
    have hwlt : w.heap.size ≤ w1.heap.size := HB1.out.size
    clear hr2 hg2 hs2 HH HH2 HB1 hf
    go_wp2
    clear hrg
    go_loopw [7] (fun v wr => SumRel w b w1.heap.size ps mill v wr) (fun _ wr => wr.rangeLeft b w1.heap.size)
    case atStart => exact HR0.out
    case round =>
      clear HR0
      obtain ⟨acc, todo, rfl, hrg, hperm, hb⟩ := hrel
      have HALL : Hid (∀ p ∈ acc, partB p = true) := fun p hp => HP.out.2.1 p (hperm.mem_iff.1 (List.mem_append_left _ hp))
      have hsb := sum_bd (mill := mill) HALL.out
      have hlen : acc.length + todo.length = ps.length := by rw [← List.length_append]; exact hperm.length_eq
      have h20 := HP.out.1
      obtain ⟨t, HT⟩ : ∃ t, Hid ((acc.map (valM mill)).sum = t) := ⟨_, Lib.hid rfl⟩
      rw [HT.out] at hsb ⊢
      rcases hrg.next keyK 0 with ⟨rfl, hrun⟩ | ⟨x, key, v, pl, w3, hx, hxp, hkey, hval, hrun, hrg3, hlt3, hg3, hs3, hen⟩
      · have HE : Hid (t = sharesInV ps mill) := by
          rw [← HT.out, HN.out]
          exact sum_perm (by simpa using hperm)
        have HB := Lib.hid hb
        clear hrg hperm hb
        go_wp2
        go_ret
        exact ⟨by rw [← HE.out]; rfl, HB.out⟩
      · obtain rfl := key_at (psized_mem.1 HS.out x hxp) hkey
        obtain rfl := sharesR_inv hval
        have hx1 := part_bd1 (HP.out.2.1 x hxp)
        have HPM : Hid ((acc ++ [x] ++ without keyL (keyL x) todo).Perm ps) := by
          refine List.Perm.trans ?_ hperm
          rw [List.append_assoc]
          exact (List.Perm.append_left acc (hrg.part keyK hx)).symm
        have HNEXT : Hid (∀ u, ((acc ++ [x]).map (valM mill)).sum = u → SumRel w b w1.heap.size ps mill (.int .i64 u) (w3.alloc (.cells #[.string x.who, .string x.mill] 129)) ∧ (w3.alloc (.cells #[.string x.who, .string x.mill] 129)).rangeLeft b w1.heap.size < wr.rangeLeft b w1.heap.size) := by
          intro u hu
          refine ⟨⟨acc ++ [x], without keyL (keyL x) todo, by rw [hu], hrg3.kept (World.grownBy_alloc w3 _ none) (by simp) (by simp), HPM.out, below_trans (bgrown hb hb.size hg3 (fun g' e => by injection e with e; omega)) (below_new _ _)⟩, ?_⟩
          rw [hrg3.left_kept (World.grownBy_alloc _ _ none) (by simp) (by simp)]
          exact hlt3
        have hal : acc.length + 1 ≤ ps.length := by have := List.length_pos_of_mem hx; omega
        clear hrg hperm hb hrg3 hlt3 hg3 hs3 hkey hval hx hxp
        cases hq : (x.mill.toList == mill.toList)
        · have HR := Lib.hid (HNEXT.out t (by simp [valM, hq, HT.out]))
          go_wp2
          go_roundw
          case rel => exact HR.out.1
          case measure => exact HR.out.2
        · have HR := Lib.hid (HNEXT.out (t + x.shares) (by simp [valM, hq, HT.out]))
          have hwr : IntKind.i64.wrap (t + x.shares) = t + x.shares := IntWalk.i64_in _ (by omega)
          go_wp2
          go_roundw
          case rel => exact HR.out.1
          case measure => exact HR.out.2
end Go.Proofs.YtlnnchgaloejlaaGreat
namespace Go.Proofs.YtlnnchgaloejlaaGreat
open Go.ChangeShapes Go.WideShapes Go.ChangeAt Go.RowKit

/-- The closure: is it another one's? -/
theorem iOther_any {W : World} {bx : Nat} (a m who : ByteArray) (n : Int) (hc : W.cell? ⟨bx, 0, none⟩ = some (.string who)) :
    Calls Tryz.prog 108 #[.agg #[.string a, .string m], .int .i64 n, .pointer (some ⟨bx, 0, none⟩)] W fun e w' => e = .returned (.bool (!(a.toList == who.toList))) ∧ Below W.heap.size W w' := by
  have hlt : bx < W.heap.size := at_lt hc
  have hd := ((below_new W (.cells #[.string a, .string m] 129)).cell (p := ⟨bx, 0, none⟩) hlt).trans hc
  go_enter Tryz.func108, Tryz.ntmps108
  go_wp2
  go_ret
  exact ⟨rfl, below_new _ _⟩

/-- The loop's word. -/
def DelRel (w : World) (b r : Nat) (ps : List Par) (who : ByteArray) (wr : World) : Prop :=
  ∃ (done todo cur : List Par), (done ++ todo).Perm ps ∧ Ranges5 wr b r cur todo ∧ cur.Perm (ofWho who done ++ todo) ∧ w.grownBy wr (some b) ∧ r < wr.heap.size
theorem without_twice (l : Lit) (xs : List Par) : without keyL l (without keyL l xs) = without keyL l xs := by
  unfold without
  rw [List.filter_filter]
  apply List.filter_congr
  intro y _
  cases (keyL y).sameKey l <;> rfl

set_option maxHeartbeats 4000000 in
set_option maxRecDepth 100000 in
theorem iDelete_any {w : World} {b bx : Nat} {ps : List Par} (who : ByteArray) (h : Holds5 w b ps) (hs : PSized ps) (hc : w.cell? ⟨bx, 0, none⟩ = some (.string who)) (hne : bx ≠ b) :
    Calls Tryz.prog 107 #[.map (some b), .func (.func 108) #[] #[.pointer (some ⟨bx, 0, none⟩)]] w fun e w' => e = .returned (.tuple #[]) ∧ Holds5 w' b (ofWho who ps) ∧ w.grownBy w' (some b) := by
  have hblt := h.lt
  have hxlt : bx < w.heap.size := at_lt hc
  obtain ⟨w2, hrg, hr2, hg2, hs2⟩ := h.range keyK Tryz.underlying122
  have HR0 : Hid (DelRel w b w.heap.size ps who w2) := ⟨[], ps, ps, by simp, hr2, by simp [ofWho], hg2.but _, by rw [hs2]; omega⟩
  have HS := Lib.hid hs
  have HC := Lib.hid hc
  have HE : Hid (Enters Tryz.prog 108) := enters_of Tryz.func108 (by kernel_rfl) rfl
  clear hr2 hg2 hs2 h hs hc
  go_enter Tryz.func107, Tryz.ntmps107
  go_wp2
  clear hrg
  go_loopw [] (fun wr => DelRel w b w.heap.size ps who wr) (fun wr => wr.rangeLeft b w.heap.size)
  case atStart => exact HR0.out
  case round =>
    clear HR0
    obtain ⟨done, todo, cur, hperm, hrg, hcur, hg, hrl⟩ := hrel
    rcases hrg.next keyK 0 with ⟨rfl, hrun⟩ | ⟨x, key, v, pl, w3, hx, hxp, hkey, hval, hrun, hrg3, hlt3, hg3, hs3, hen⟩
    · have HN : Hid (Holds5 wr b (ofWho who ps)) := by
        refine hrg.map.perm keyK (hcur.trans ?_)
        rw [List.append_nil] at hperm ⊢
        exact hperm.filter _
      have HG := Lib.hid hg
      clear hrg hcur hg hperm
      go_wp2
      go_end0
      exact ⟨rfl, HN.out, HG.out⟩
    · have hxps : x ∈ ps := hperm.mem_iff.1 (List.mem_append_right _ hx)
      obtain rfl := key_at (psized_mem.1 HS.out x hxps) hkey
      obtain rfl := sharesR_inv hval
      have hg3' : w.grownBy w3 (some b) := hg.andThen hg3 (fun j e => by injection e with e; left; omega)
      have hcw : (w3.alloc (.cells #[.string x.who, .string x.mill] 129)).cell? ⟨bx, 0, none⟩ = some (.string who) := by
        rw [(below_new w3 _).cell (p := ⟨bx, 0, none⟩) (Nat.lt_of_lt_of_le hxlt hg3'.size), grown_keeps hg3' hxlt (by intro e; injection e with e; omega)]
        exact HC.out
      have hra := RecAt.new (fun p : Par => [Value.string p.who, .string p.mill]) w3 x 129
      have hlt4 : w3.heap.size < (w3.alloc (.cells #[.string x.who, .string x.mill] 129)).heap.size := by simp
      have hr4 := hrg3.kept (World.grownBy_alloc w3 (.cells #[.string x.who, .string x.mill] 129) none) (by simp) (by simp)
      have hm4 := hrg3.left_kept (World.grownBy_alloc w3 (.cells #[.string x.who, .string x.mill] 129) none) (by simp) (by simp)
      have HRA := Lib.hid hra
      have HR4 := Lib.hid hr4
      have HM4 := Lib.hid hm4
      have HG4 := Lib.hid (show w.grownBy (w3.alloc (.cells #[.string x.who, .string x.mill] 129)) (some b) from hg3'.trans (World.grownBy_alloc w3 _ _))
      have HXS := Lib.hid (psized_mem.1 HS.out x hxps)
      have HPT := Lib.hid (hrg.part keyK hx)
      have HPM := Lib.hid hperm
      have HCU := Lib.hid hcur
      have HLT := Lib.hid hlt3
      have HCW := Lib.hid hcw
      have HL4 := Lib.hid hlt4
      have HAP := Lib.hid hrg.apart
      have HKS := Lib.hid hrg.keys
      have HXC := Lib.hid hxp
      have hbw : b < w.heap.size := hblt
      clear hra hlt4 hr4 hm4 hg3' hcw hperm hcur hrg hrg3 hg3 hs3 hlt3 hkey hval hx hxp hg hrl hxps
      go_wp2_with fail
      refine (iOther_any x.who x.mill who x.shares HCW.out).mono ?_
      rintro e w4 ⟨rfl, hb4⟩
      have hg4n : World.grownBy (w3.alloc (.cells #[.string x.who, .string x.mill] 129)) w4 none := ⟨hb4.os, hb4.tape, hb4.output, hb4.size, fun k hk _ => hb4.block k hk⟩
      have HR5 := Lib.hid (HR4.out.kept hg4n (by simp) (by simp))
      have HM5 := Lib.hid (HR4.out.left_kept hg4n (by simp) (by simp))
      have HG5 := Lib.hid (HG4.out.trans (hg4n.but (some b)))
      have hv0 : w4.cell? ⟨w3.heap.size, 0, none⟩ = some (.string x.who) := (hb4.cell (p := ⟨w3.heap.size, 0, none⟩) HL4.out).trans (HRA.out 0 _ rfl)
      have hv1 : w4.cell? ⟨w3.heap.size, 1, none⟩ = some (.string x.mill) := (hb4.cell (p := ⟨w3.heap.size, 1, none⟩) HL4.out).trans (HRA.out 1 _ rfl)
      clear hb4 hg4n
      cases hq : (x.who.toList == who.toList)
      · obtain ⟨w5, hdl, hrg5, hle5, ht5⟩ := HR5.out.drop keyK Tryz.underlying122 (keyOf_par HXS.out) 0
        have HR : Hid (DelRel w b w.heap.size ps who w5 ∧ w5.rangeLeft b w.heap.size < wr.rangeLeft b w.heap.size) := by
          refine ⟨⟨done ++ [x], without keyL (keyL x) todo, without keyL (keyL x) cur, ?_, ?_, ?_, HG5.out.trans ht5.grown, Nat.lt_of_lt_of_le HR5.out.lt ht5.grown.size⟩, ?_⟩
          · refine List.Perm.trans ?_ HPM.out
            rw [List.append_assoc]
            exact (List.Perm.append_left done HPT.out).symm
          · rw [without_twice] at hrg5; exact hrg5
          · have h1 : (x :: without keyL (keyL x) cur).Perm (x :: (ofWho who done ++ without keyL (keyL x) todo)) := by
              refine (without_perm keyK HAP.out HKS.out HXC.out).symm.trans (HCU.out.trans ?_)
              refine (List.Perm.append_left _ HPT.out).trans ?_
              exact List.perm_middle
            have h2 : ofWho who (done ++ [x]) = ofWho who done := by unfold ofWho; rw [List.filter_append]; simp [hq]
            rw [h2]
            exact List.Perm.cons_inv h1
          · have h1 := HM5.out
            have h2 := HM4.out
            have h3 := HLT.out
            omega
        clear hrg5 hle5 ht5
        go_wp2
        go_roundw
        case rel => exact HR.out.1
        case measure => exact HR.out.2
      · have HR : Hid (DelRel w b w.heap.size ps who w4 ∧ w4.rangeLeft b w.heap.size < wr.rangeLeft b w.heap.size) := by
          refine ⟨⟨done ++ [x], without keyL (keyL x) todo, cur, ?_, HR5.out, ?_, HG5.out, HR5.out.lt⟩, ?_⟩
          · refine List.Perm.trans ?_ HPM.out
            rw [List.append_assoc]
            exact (List.Perm.append_left done HPT.out).symm
          · have h2 : ofWho who (done ++ [x]) = ofWho who done ++ [x] := by unfold ofWho; rw [List.filter_append]; simp [hq]
            rw [h2, List.append_assoc]
            exact HCU.out.trans (List.Perm.append_left _ HPT.out)
          · have h1 := HM5.out
            have h2 := HM4.out
            have h3 := HLT.out
            omega
        go_wp2
        go_roundw
        case rel => exact HR.out.1
        case measure => exact HR.out.2

set_option maxHeartbeats 1000000 in
set_option maxRecDepth 100000 in
theorem iPartsFor_any {w : World} {a : Option Addr} {ps : List Par} (cap : Nat) (who : ByteArray) (h : Recs Par.cs w a ps) (hl : ps.length ≤ 1048576) (hs : PSized ps) :
    Calls Tryz.prog 78 #[.slice a ps.length cap, .string who] w (ResO Par.cs 3 (partsForV ps who) w) := by
  have H := Lib.hid (h.below (below_new w (.cells #[.string who] 9)))
  have HS := Lib.hid hs
  clear h hs
  have HPS : Hid (PSized (heldL ps)) := by
    unfold heldL
    split
    · exact HS.out
    · intro k hk; simp at hk
  have HPL : Hid ((heldL ps).length ≤ 1048576) := by
    unfold heldL
    split
    · exact hl
    · exact Nat.zero_le _
  have HEQ : Hid (ofWho who (heldL ps) = partsForV ps who) := by
    unfold heldL partsForV
    split
    · rfl
    · rfl
  have HUP : Hid ((heldL ps).Pairwise KeyLt) := by
    cases hf : partsB ps
    · rw [held_no hf]; exact List.Pairwise.nil
    · rw [held_yes hf]; exact (parts_pair.1 hf).2.2
  go_enter Tryz.func78, Tryz.ntmps78
  go_wp2_with fail
  refine (iHeld_any _ H.out HS.out (by omega)).mono ?_
  rintro e w1 ⟨b, rfl, hb, hm, hb1⟩
  have hx1 : w1.cell? ⟨w.heap.size, 0, none⟩ = some (.string who) := by
    have hlt : w.heap.size < (w.alloc (.cells #[.string who] 9)).heap.size := by simp
    exact (hb1.cell (p := ⟨w.heap.size, 0, none⟩) hlt).trans (RecAt.new (fun s : ByteArray => [Value.string s]) w who 9 0 _ rfl)
  have hbw : w.heap.size < b := by have : (w.alloc (.cells #[.string who] 9)).heap.size = w.heap.size + 1 := by simp
                                   omega
  have HB1 := Lib.hid (below_trans (below_new _ _) hb1)
  have HM1 := Lib.hid hm
  have HX1 := Lib.hid hx1
  clear hb1 hm hx1 hb
  go_wp2_with fail
  refine (iDelete_any who HM1.out HPS.out HX1.out (by omega)).mono ?_
  rintro e w2 ⟨rfl, hm2, hg2⟩
  have HB2 := Lib.hid (bgrown HB1.out HB1.out.size hg2 (fun g e => by injection e with e; omega))
  have HM2 := Lib.hid hm2
  have HP2 : Hid (PSized (ofWho who (heldL ps))) := by
    have := HPS.out
    unfold Hid
    rw [psized_mem] at this ⊢
    exact fun p hp => this p (List.mem_filter.1 hp).1
  have HL2 : Hid ((ofWho who (heldL ps)).length ≤ 1048576) := Nat.le_trans (ofWho_le _ _) HPL.out
  clear hm2 hg2
  go_wp2_with fail
  refine (iParts_any HM2.out HP2.out HL2.out).mono ?_
  rintro e w3 ⟨out, hp3, hu3, g, c3, rfl, ho3, hb3⟩
  have HN : Hid (ResO Par.cs 3 (partsForV ps who) w (.returned (.slice (some ⟨g, 0, none⟩) out.length c3)) w3) := by
    have e : out = partsForV ps who := by
      rw [← HEQ.out]
      exact up_one hp3 hu3 (HUP.out.filter _)
    subst e
    obtain ⟨a4, c4, e4, hr4, -⟩ := ownR_of Par.len ho3
    injection e4 with e4 e5 e6
    subst e4; subst e6
    exact ⟨_, _, rfl, hr4.mono HB2.out.size, below_trans HB2.out hb3⟩
  clear hp3 hu3 ho3 hb3
  go_wp2
  go_ret
  exact HN.out
end Go.Proofs.YtlnnchgaloejlaaGreat
namespace Go.Proofs.YtlnnchgaloejlaaGreat
open Go.ChangeShapes Go.WideShapes Go.ChangeAt Go.RowKit

/-- Three ways. -/
def cmpN (a b : Int) : Int := if a < b then -1 else if b < a then 1 else 0
theorem cmpN_lt {a b : Int} (h : a < b) : cmpN a b = -1 := by simp [cmpN, h]
theorem cmpN_gt {a b : Int} (h : b < a) : cmpN a b = 1 := by unfold cmpN; rw [if_neg (by omega), if_pos h]
theorem cmpN_eq {a b : Int} (h : ¬ a < b) (h' : ¬ b < a) : cmpN a b = 0 := by unfold cmpN; rw [if_neg h, if_neg h']

set_option maxHeartbeats 1000000 in
set_option maxRecDepth 100000 in
theorem iCmpL_any (a b : Int) (w : World) :
    Calls Tryz.prog 141 #[.int .i64 a, .int .i64 b] w fun e w' => e = .returned (.int .i64 (cmpN a b)) ∧ w = w' := by
  by_cases h1 : a < b
  · have HN := Lib.hid (cmpN_lt h1)
    go_enter Tryz.func141, Tryz.ntmps141
    go_wp2
    go_ret
    exact ⟨by rw [HN.out]; rfl, rfl⟩
  · by_cases h2 : b < a
    · have HN := Lib.hid (cmpN_gt h2)
      go_enter Tryz.func141, Tryz.ntmps141
      go_wp2
      go_ret
      exact ⟨by rw [HN.out]; rfl, rfl⟩
    · have HN := Lib.hid (cmpN_eq h1 h2)
      go_enter Tryz.func141, Tryz.ntmps141
      go_wp2
      go_ret
      exact ⟨by rw [HN.out]; rfl, rfl⟩

set_option maxHeartbeats 1000000 in
set_option maxRecDepth 100000 in
theorem iByRipe_any (p q : Wai) (w : World) :
    Calls Tryz.prog 105 #[.agg #[.string p.who, .string p.mill, .int .i64 p.amount, .int .i64 p.ripe], .agg #[.string q.who, .string q.mill, .int .i64 q.amount, .int .i64 q.ripe]] w fun e w' => e = .returned (.int .i64 (cmpN p.ripe q.ripe)) ∧ Below w.heap.size w w' := by
  go_enter Tryz.func105, Tryz.ntmps105
  go_wp2_with (go_at_call 141; refine (iCmpL_any _ _ _).mono ?_; rintro e w' ⟨rfl, rfl⟩)
  go_ret
  exact ⟨rfl, ((Below.refl _ _).alloc (Nat.le_refl _) _).alloc (by simp) _⟩
end Go.Proofs.YtlnnchgaloejlaaGreat
namespace Go.Proofs.YtlnnchgaloejlaaGreat
open Go.ChangeShapes Go.WideShapes Go.ChangeAt Go.RowKit

theorem wait_split (p : Wai) : waitB p = (nameB p.who && (nameB p.mill && (decide (1 ≤ p.amount) && (inB 0 1000000 p.amount && inB 0 1000 p.ripe)))) := by
  unfold waitB
  congr 1; congr 1
  rw [← Bool.and_assoc]; congr 1
  simp only [inB]
  rw [Bool.eq_iff_iff]; simp; omega

set_option maxHeartbeats 4000000 in
set_option maxRecDepth 100000 in
theorem iWaitRight_any (p : Wai) (w : World) (h1 : p.who.size ≤ maxLen) (h2 : p.mill.size ≤ maxLen) :
    Calls Tryz.prog 103 #[.agg #[.string p.who, .string p.mill, .int .i64 p.amount, .int .i64 p.ripe]] w fun e w' => e = .returned (.bool (waitB p)) ∧ Below w.heap.size w w' := by
  have HS1 := Lib.hid h1
  have HS2 := Lib.hid h2
  clear h1 h2
  have HN := Lib.hid (wait_split p)
  cases q1 : nameB p.who
  · go_enter Tryz.func103, Tryz.ntmps103
    go_wp2_with fail
    refine (iNameOk_any p.who _ HS1.out).mono ?_
    rintro e w' ⟨rfl, rfl⟩
    rw [q1]
    go_wp2
    go_ret
    exact ⟨by rw [HN.out, q1]; rfl, below_new _ _⟩
  cases q2 : nameB p.mill
  · go_enter Tryz.func103, Tryz.ntmps103
    go_wp2_with fail
    refine (iNameOk_any p.who _ HS1.out).mono ?_
    rintro e w' ⟨rfl, rfl⟩
    rw [q1]
    go_wp2_with fail
    refine (iNameOk_any p.mill _ HS2.out).mono ?_
    rintro e w' ⟨rfl, rfl⟩
    rw [q2]
    go_wp2
    go_ret
    exact ⟨by rw [HN.out, q1, q2]; rfl, below_new _ _⟩
  cases q3 : decide (1 ≤ p.amount)
  · go_enter Tryz.func103, Tryz.ntmps103
    go_wp2_with fail
    refine (iNameOk_any p.who _ HS1.out).mono ?_
    rintro e w' ⟨rfl, rfl⟩
    rw [q1]
    go_wp2_with fail
    refine (iNameOk_any p.mill _ HS2.out).mono ?_
    rintro e w' ⟨rfl, rfl⟩
    rw [q2]
    go_wp2
    go_ret
    exact ⟨by rw [HN.out, q1, q2, q3]; rfl, below_new _ _⟩
  cases q4 : inB 0 1000000 p.amount
  · go_enter Tryz.func103, Tryz.ntmps103
    go_wp2_with fail
    refine (iNameOk_any p.who _ HS1.out).mono ?_
    rintro e w' ⟨rfl, rfl⟩
    rw [q1]
    go_wp2_with fail
    refine (iNameOk_any p.mill _ HS2.out).mono ?_
    rintro e w' ⟨rfl, rfl⟩
    rw [q2]
    go_wp2_with fail
    refine (iAmountOk_any _ _).mono ?_
    rintro e w' ⟨rfl, rfl⟩
    rw [q4]
    go_wp2
    go_ret
    exact ⟨by rw [HN.out, q1, q2, q3, q4]; rfl, below_new _ _⟩
  cases q5 : inB 0 1000 p.ripe
  all_goals
    go_enter Tryz.func103, Tryz.ntmps103
    go_wp2_with fail
    refine (iNameOk_any p.who _ HS1.out).mono ?_
    rintro e w' ⟨rfl, rfl⟩
    rw [q1]
    go_wp2_with fail
    refine (iNameOk_any p.mill _ HS2.out).mono ?_
    rintro e w' ⟨rfl, rfl⟩
    rw [q2]
    go_wp2_with fail
    refine (iAmountOk_any _ _).mono ?_
    rintro e w' ⟨rfl, rfl⟩
    rw [q4]
    go_wp2_with fail
    refine (within_any _ _ _).mono ?_
    rintro e w' ⟨rfl, rfl⟩
    rw [q5]
    go_wp2
    go_ret
    exact ⟨by rw [HN.out, q1, q2, q3, q4, q5]; rfl, below_new _ _⟩

/-- From number k on none is ripe sooner than the one ahead of it. -/
def WFrom (ps : List Wai) (k : Nat) : Prop := ∀ j (h : j + 1 < ps.length), k ≤ j → ps[j].ripe ≤ ps[j + 1].ripe
noncomputable instance (ps : List Wai) : Decidable (WFrom ps 0) := Classical.propDecidable _
noncomputable def wsortB (ps : List Wai) : Bool := decide (WFrom ps 0)
theorem wsort_no {ps : List Wai} {k : Nat} (h : k + 1 < ps.length) (hq : ps[k + 1].ripe < ps[k].ripe) : wsortB ps = false := by
  simp only [wsortB, decide_eq_false_iff_not]
  intro hc; have := hc k h (Nat.zero_le _); omega
theorem wsort_yes {ps : List Wai} (h : WFrom ps 0) : wsortB ps = true := by simpa [wsortB] using h

set_option maxHeartbeats 4000000 in
set_option maxRecDepth 100000 in
theorem iSorted_any {w : World} {a : Option Addr} {ps : List Wai} (cap : Nat) (h : Recs Wai.cs w a ps) (hl : ps.length ≤ 1048576) :
    Calls Tryz.prog 104 #[.slice a ps.length cap, .func (Fn.func 105) #[] #[]] w fun e w' => e = .returned (.bool (wsortB ps)) ∧ Below w.heap.size w w' := by
  have H := Lib.hid h
  clear h
  go_enter Tryz.func104, Tryz.ntmps104
  go_wp2
  go_loopw [5] (fun i w' => ∃ (k : Int), -1 ≤ k ∧ k < ps.length ∧ i = .int .i64 k ∧ Below w.heap.size w w' ∧ WFrom ps k.toNat) (fun i _ => (intOf i).toNat)
  case atStart => exact ⟨(ps.length : Int) - 1, by omega, by omega, by go_num, Below.refl _ _, fun j hj hk => by omega⟩
  case round =>
    obtain ⟨k, hk0, hk, rfl, hb, hu⟩ := hrel
    have HB := Lib.hid hb
    have HU := Lib.hid hu
    clear hb hu
    by_cases h0 : 0 < k
    · obtain ⟨m, rfl⟩ : ∃ m : Nat, k = (m : Int) + 1 := ⟨k.toNat - 1, by omega⟩
      have hlt : m + 1 < ps.length := by omega
      obtain ⟨b, off, rfl, hlb, c0, c1, c2, c3⟩ := Wai.at (H.out.below HB.out) (m + 1) hlt
      obtain ⟨b', off', e', _, d0, d1, d2, d3⟩ := Wai.at (H.out.below HB.out) m (by omega)
      obtain ⟨rfl, rfl⟩ : b' = b ∧ off' = off := by injection e' with e'; injection e' with e1 e2; exact ⟨e1.symm, e2.symm⟩
      clear e'
      have e0 := Grow.cell c0
      have e1 := Grow.cell c1
      have e2 := Grow.cell c2
      have e3 := Grow.cell c3
      have f0 := Grow.cell d0
      have f1 := Grow.cell d1
      have f2 := Grow.cell d2
      have f3 := Grow.cell d3
      have ht : ((m : Int) + 1).toNat = m + 1 := by omega
      have hs1 : (m : Int) + 1 - 1 = m := by omega
      obtain ⟨x, HX⟩ : ∃ x, Hid (cmpN ps[m + 1].ripe ps[m].ripe = x) := ⟨_, Lib.hid rfl⟩
      go_wp2
      refine wp_region_grow (by kernel_rfl) (by kernel_rfl) ?_
      repeat (go_big_quiet_step ((go_at_call 105; exact grow_call (int_is HX.out) (iByRipe_any ps[m + 1] ps[m] _))))
      refine wpQuiet_nil ?_
      intro _ hw'
      obtain ⟨gq, rfl⟩ := hw'
      have HB2 := Lib.hid (below_trans HB.out gq.ok)
      by_cases hq : ps[m + 1].ripe < ps[m].ripe
      · have HN := Lib.hid (wsort_no hlt hq)
        have hx : x = -1 := by rw [← HX.out]; exact cmpN_lt hq
        subst hx
        go_wp2
        go_ret
        exact ⟨by rw [HN.out]; rfl, HB2.out⟩
      · have hx : ¬ x < 0 := by rw [← HX.out]; unfold cmpN; rw [if_neg hq]; split <;> omega
        have HN : Hid (WFrom ps m) := by
          intro j hj hmj
          by_cases e : j = m
          · subst e; omega
          · exact HU.out j hj (by omega)
        go_wp2
        go_roundw
        case rel => exact ⟨m, by omega, by omega, by go_num, HB2.out, HN.out⟩
        case measure => simp [intOf]
    · have HN := Lib.hid (wsort_yes (ps := ps) (fun j hj _ => HU.out j hj (by omega)))
      go_wp2
      go_ret
      exact ⟨by rw [HN.out]; rfl, HB.out⟩
end Go.Proofs.YtlnnchgaloejlaaGreat
