/-
  What the program's PartsOk, SharesOf and SharesIn answer, at every list of parts.
-/
import Derived.Test.YtpmibegfpfjdgaaPartH
namespace Go.Proofs.Ytpmibegfpfjdgaa
open Go.ChangeShapes Go.WideShapes Go.ChangeAt Go.RowKit

set_option maxHeartbeats 1000000 in
set_option maxRecDepth 100000 in
theorem iPartsOk_any {w : World} {a : Option Addr} {ps : List Par} (cap : Nat) (h : Recs Par.cs w a ps) (hl : ps.length ≤ 9223372036854775807) (hs : PSized ps) :
    Calls Try.prog 19 #[.slice a ps.length cap] w fun e w' => e = .returned (.bool (partsB ps)) ∧ Below w.heap.size w w' := by
  have H := Lib.hid h
  have HS := Lib.hid hs
  clear h hs
  go_enter Try.func19, Try.ntmps19
  go_wp2_with fail
  refine (iHeld_any _ H.out HS.out hl).mono ?_
  rintro e w1 ⟨b, rfl, hb, hm, hb1⟩
  have HB1 := Lib.hid hb1
  clear hb1 hm
  go_wp2
  go_ret
  exact ⟨rfl, HB1.out⟩

/-- Their key is that one just where they are that one's of that mill. -/
theorem same_is {p : Par} {who mill : ByteArray} (hp : p.who.size ≤ maxLen ∧ p.mill.size ≤ maxLen) (hw : who.size ≤ maxLen) (hm : mill.size ≤ maxLen) : (keyL p).sameKey (keyAt who mill) = isB p who mill := by
  apply Bool.eq_iff_iff.2
  rw [same_iff keyK ⟨_, keyOf_par hp⟩]
  constructor
  · intro h
    obtain ⟨e1, e2⟩ := keyAt_inj hp.1 hp.2 hw hm h
    simp [isB, e1, e2]
  · intro h
    obtain ⟨e1, e2⟩ := is_parts h
    unfold keyL
    rw [bytes_same e1, bytes_same e2]
/-- So many shares as lie under that key. -/
noncomputable def valP (ps : List Par) (who mill : ByteArray) : Int := ((under keyL (keyAt who mill) ps).map Par.shares).getD 0
theorem valP_of {ps : List Par} (hs : PSized ps) (hf : partsB ps = true) {who mill : ByteArray} (hw : who.size ≤ maxLen) (hm : mill.size ≤ maxLen) : valP ps who mill = sharesOfV ps who mill := by
  unfold valP under
  cases h : ps.find? fun y => (keyL y).sameKey (keyAt who mill) with
  | none =>
    rw [List.find?_eq_none] at h
    rw [sharesOf_none hf]
    · rfl
    · apply pfind_none
      intro p hp
      have := h p hp
      rw [same_is (psized_mem.1 hs p hp) hw hm] at this
      simpa using this
  | some p =>
    have hp := List.mem_of_find?_eq_some h
    have hq := List.find?_some (p := fun y => (keyL y).sameKey (keyAt who mill)) h
    rw [same_is (psized_mem.1 hs p hp) hw hm] at hq
    obtain ⟨k, hk, rfl⟩ := List.getElem_of_mem hp
    rw [sharesOf_hit hf (pfind_at (parts_pair.1 hf).2.2 hk hq) hk]
    rfl
theorem look_val {w : World} {b : Nat} {ps : List Par} (h : Holds5 w b ps) {who mill : ByteArray} (hw : who.size ≤ maxLen) (hm : mill.size ≤ maxLen) :
    (Instr.lookup 58 (.map (some b)) (.agg #[.string who, .string mill]) false).run Try.prog w = .ok (.int .i64 (valP ps who mill)) w := by
  obtain ⟨v, pl, hr, hv⟩ := h.look keyK Try.underlying58 (Try.zeroValue2 w) (show sharesR (.int .i64 0) = some (.lit (.int .i64 0), []) from rfl) (keyOf_pair hw hm)
  have e : ((under keyL (keyAt who mill) ps).map sharesD).getD (.lit (.int .i64 0)) = .lit (.int .i64 (valP ps who mill)) := by
    unfold valP
    cases under keyL (keyAt who mill) ps <;> rfl
  rw [e] at hv
  rw [hr, sharesR_inv hv]

set_option maxHeartbeats 1000000 in
set_option maxRecDepth 100000 in
theorem iSharesOf_any {w : World} {a : Option Addr} {ps : List Par} (cap : Nat) (who mill : ByteArray) (h : Recs Par.cs w a ps) (hl : ps.length ≤ 9223372036854775807) (hs : PSized ps) (hw : who.size ≤ maxLen) (hm : mill.size ≤ maxLen) :
    Calls Try.prog 21 #[.slice a ps.length cap, .string who, .string mill] w fun e w' => e = .returned (.int .i64 (sharesOfV ps who mill)) ∧ Below w.heap.size w w' := by
  have H := Lib.hid h
  have HS := Lib.hid hs
  have HW := Lib.hid hw
  have HM := Lib.hid hm
  clear h hs hw hm
  go_enter Try.func21, Try.ntmps21
  go_wp2_with fail
  refine (iHeld_any _ H.out HS.out hl).mono ?_
  rintro e w1 ⟨b, rfl, hb, hm, hb1⟩
  have HB1 := Lib.hid hb1
  have HH := Lib.hid hm
  clear hb1 hm
  cases hf : partsB ps
  · have HN := Lib.hid (show sharesOfV ps who mill = -1 by simp [sharesOfV, hf])
    go_wp2
    go_ret
    exact ⟨by rw [HN.out]; rfl, HB1.out⟩
  · have hv := look_val HH.out HW.out HM.out
    rw [held_yes hf, valP_of HS.out hf HW.out HM.out] at hv
    go_wp2
    go_ret
    exact ⟨rfl, HB1.out⟩

theorem sum_bd {mill : ByteArray} : ∀ {acc : List Par}, (∀ p ∈ acc, partB p = true) → 0 ≤ (acc.map (valM mill)).sum ∧ (acc.map (valM mill)).sum ≤ 1000000000 * acc.length
  | [], _ => by simp
  | p :: r, h => by
    have h1 := sum_bd (mill := mill) (acc := r) (fun q hq => h q (by simp [hq]))
    have h2 := part_bd1 (h p (by simp))
    have h3 : 0 ≤ valM mill p ∧ valM mill p ≤ 1000000000 := by unfold valM; split <;> omega
    simp only [List.map_cons, List.sum_cons, List.length_cons]
    omega
theorem sum_perm {mill : ByteArray} {xs ys : List Par} (h : xs.Perm ys) : (xs.map (valM mill)).sum = (ys.map (valM mill)).sum := by
  induction h with
  | nil => rfl
  | cons x _ ih => simp [ih]
  | swap x y l => simp only [List.map_cons, List.sum_cons]; omega
  | trans _ _ h1 h2 => exact h1.trans h2

/-- The loop's word. -/
def SumRel (w : World) (b r : Nat) (ps : List Par) (mill : ByteArray) (v : Value) (wr : World) : Prop :=
  ∃ (acc todo : List Par), v = .int .i64 (acc.map (valM mill)).sum ∧ Ranges5 wr b r ps todo ∧ (acc ++ todo).Perm ps ∧ Below w.heap.size w wr

set_option maxHeartbeats 4000000 in
set_option maxRecDepth 100000 in
theorem iSharesIn_any {w : World} {a : Option Addr} {ps : List Par} (cap : Nat) (mill : ByteArray) (h : Recs Par.cs w a ps) (hl : ps.length ≤ 9223372036854775807) (hs : PSized ps) :
    Calls Try.prog 23 #[.slice a ps.length cap, .string mill] w fun e w' => e = .returned (.int .i64 (sharesInV ps mill)) ∧ Below w.heap.size w w' := by
  have H := Lib.hid h
  have HS := Lib.hid hs
  clear h hs
  go_enter Try.func23, Try.ntmps23
  go_wp2_with fail
  refine (iHeld_any _ H.out HS.out hl).mono ?_
  rintro e w1 ⟨b, rfl, hb, hm, hb1⟩
  have HB1 := Lib.hid hb1
  have HH := Lib.hid hm
  clear hb1 hm
  cases hf : partsB ps
  · have HN := Lib.hid (show sharesInV ps mill = -1 by simp [sharesInV, hf])
    go_wp2
    go_ret
    exact ⟨by rw [HN.out]; rfl, HB1.out⟩
  · have HN := Lib.hid (sharesIn_eq hf mill)
    have HP := Lib.hid (parts_pair.1 hf)
    have HH2 : Hid (Holds5 w1 b ps) := by have := HH.out; rw [held_yes hf] at this; exact this
    obtain ⟨w2, hrg, hr2, hg2, hs2⟩ := HH2.out.range keyK Try.underlying58
    have HR0 : Hid (SumRel w b w1.heap.size ps mill (.int .i64 0) w2) := ⟨[], ps, rfl, hr2, by simp, bgrown HB1.out HB1.out.size hg2 (by simp)⟩
    have hblt : b < w1.heap.size := HH2.out.lt
    have hwlt : w.heap.size ≤ w1.heap.size := HB1.out.size
    clear hr2 hg2 hs2 HH HH2 HB1 hf
    go_wp2
    clear hrg
    go_loopw [7] (fun v wr => SumRel w b w1.heap.size ps mill v wr) (fun _ wr => wr.rangeLeft b w1.heap.size)
    case atStart => exact HR0.out
    case round =>
      clear HR0
      obtain ⟨acc, todo, rfl, hrg, hperm, hb⟩ := hrel
      have HALL : Hid (∀ p ∈ acc, partB p = true) := fun p hp => HP.out.2.1 p (hperm.mem_iff.1 (List.mem_append_left _ hp))
      have hsb := sum_bd (mill := mill) HALL.out
      have hlen : acc.length + todo.length = ps.length := by rw [← List.length_append]; exact hperm.length_eq
      have h20 := HP.out.1
      obtain ⟨t, HT⟩ : ∃ t, Hid ((acc.map (valM mill)).sum = t) := ⟨_, Lib.hid rfl⟩
      rw [HT.out] at hsb ⊢
      rcases hrg.next keyK 0 with ⟨rfl, hrun⟩ | ⟨x, key, v, pl, w3, hx, hxp, hkey, hval, hrun, hrg3, hlt3, hg3, hs3, hen⟩
      · have HE : Hid (t = sharesInV ps mill) := by
          rw [← HT.out, HN.out]
          exact sum_perm (by simpa using hperm)
        have HB := Lib.hid hb
        clear hrg hperm hb
        go_wp2
        go_ret
        exact ⟨by rw [← HE.out]; rfl, HB.out⟩
      · obtain rfl := key_at (psized_mem.1 HS.out x hxp) hkey
        obtain rfl := sharesR_inv hval
        have hx1 := part_bd1 (HP.out.2.1 x hxp)
        have HPM : Hid ((acc ++ [x] ++ without keyL (keyL x) todo).Perm ps) := by
          refine List.Perm.trans ?_ hperm
          rw [List.append_assoc]
          exact (List.Perm.append_left acc (hrg.part keyK hx)).symm
        have HNEXT : Hid (∀ u, ((acc ++ [x]).map (valM mill)).sum = u → SumRel w b w1.heap.size ps mill (.int .i64 u) (w3.alloc (.cells #[.string x.who, .string x.mill] 55)) ∧ (w3.alloc (.cells #[.string x.who, .string x.mill] 55)).rangeLeft b w1.heap.size < wr.rangeLeft b w1.heap.size) := by
          intro u hu
          refine ⟨⟨acc ++ [x], without keyL (keyL x) todo, by rw [hu], hrg3.kept (World.grownBy_alloc w3 _ none) (by simp) (by simp), HPM.out, below_trans (bgrown hb hb.size hg3 (fun g' e => by injection e with e; omega)) (below_new _ _)⟩, ?_⟩
          rw [hrg3.left_kept (World.grownBy_alloc _ _ none) (by simp) (by simp)]
          exact hlt3
        have hal : acc.length + 1 ≤ ps.length := by have := List.length_pos_of_mem hx; omega
        clear hrg hperm hb hrg3 hlt3 hg3 hs3 hkey hval hx hxp
        cases hq : (x.mill.toList == mill.toList)
        · have HR := Lib.hid (HNEXT.out t (by simp [valM, hq, HT.out]))
          go_wp2
          go_roundw
          case rel => exact HR.out.1
          case measure => exact HR.out.2
        · have HR := Lib.hid (HNEXT.out (t + x.shares) (by simp [valM, hq, HT.out]))
          have hwr : IntKind.i64.wrap (t + x.shares) = t + x.shares := IntWalk.i64_in _ (by omega)
          go_wp2
          go_roundw
          case rel => exact HR.out.1
          case measure => exact HR.out.2
end Go.Proofs.Ytpmibegfpfjdgaa
