/-
  What the program's 'changed' answers: Gave's and Took's common word.
-/
import Derived.Test.YtpmibegfpfjdgaaPartP
import Derived.StillTailTactics
namespace Go.Proofs.Ytpmibegfpfjdgaa
open Go.ChangeShapes Go.WideShapes Go.ChangeAt Go.RowKit

/-- What is changed to. -/
def ChangedV (ps : List Par) (who mill : ByteArray) (n sgn : Int) (ok : Bool) (X : List Par) : Prop :=
  (¬ (partsB ps = true ∧ inB 1 1000000000 n = true) ∧ ok = false ∧ X = heldL ps) ∨
  (partsB ps = true ∧ inB 1 1000000000 n = true ∧ PutV ps ⟨who, mill, valP ps who mill + sgn * n⟩ ok X)
def ChangedRes (ps : List Par) (who mill : ByteArray) (n sgn : Int) (w : World) (e : Ending) (w' : World) : Prop :=
  ∃ (ok : Bool) (X out : List Par) (g c : Nat), e = .returned (.tuple #[.slice (some ⟨g, 0, none⟩) out.length c, .bool ok]) ∧ out.Perm X ∧ out.Pairwise KeyLt ∧
    w'.ownsRow w.heap.size 37 3 (.slice (some ⟨g, 0, none⟩) out.length c) out.length (out.flatMap Par.cs) ∧ Below w.heap.size w w' ∧ ChangedV ps who mill n sgn ok X

theorem held_sized {ps : List Par} (hs : PSized ps) : PSized (heldL ps) := by
  unfold heldL
  split
  · exact hs
  · intro k hk; simp at hk
theorem held_len (ps : List Par) : (heldL ps).length ≤ 20 := by
  cases hf : partsB ps
  · rw [held_no hf]; exact Nat.zero_le _
  · rw [held_yes hf]; exact (parts_true hf).1
theorem put_sized {qs : List Par} {p : Par} {ok : Bool} {out : List Par} (hs : PSized qs) (hp : p.who.size ≤ maxLen ∧ p.mill.size ≤ maxLen) (h : PutV qs p ok out) : PSized out ∧ out.length ≤ qs.length + 1 := by
  have hw : PSized (without keyL (keyL p) qs) ∧ (without keyL (keyL p) qs).length ≤ qs.length := by
    refine ⟨?_, (without_sub _ _).length_le⟩
    rw [psized_mem] at hs ⊢
    exact fun q hq => hs q ((without_sub _ _).subset hq)
  rcases h with ⟨-, -, rfl⟩ | ⟨-, -, -, rfl⟩ | ⟨-, -, -, -, rfl⟩
  · exact ⟨hw.1, by omega⟩
  · exact ⟨hs, by omega⟩
  · refine ⟨?_, by simp; omega⟩
    rw [psized_mem] at hw ⊢
    intro q hq
    rcases List.mem_cons.1 hq with rfl | hq
    · exact hp
    · exact hw.1 q hq
theorem val_bd {ps : List Par} (hs : PSized ps) (hf : partsB ps = true) {who mill : ByteArray} (hw : who.size ≤ maxLen) (hm : mill.size ≤ maxLen) : 0 ≤ valP ps who mill ∧ valP ps who mill ≤ 1000000000 := by
  rw [valP_of hs hf hw hm]
  by_cases h : 0 ≤ pfindV ps who mill
  · obtain ⟨k, e, hk, -⟩ := pfind_hit h
    rw [sharesOf_hit hf e hk]
    have := part_bd1 ((parts_pair.1 hf).2.1 _ (List.getElem_mem hk))
    omega
  · have := pfind_lo ps who mill
    rw [sharesOf_none hf (by omega)]
    omega

set_option maxHeartbeats 4000000 in
set_option maxRecDepth 100000 in
theorem iChanged_any {w : World} {a : Option Addr} {ps : List Par} (cap : Nat) (who mill : ByteArray) (n sgn : Int) (h : Recs Par.cs w a ps) (hs : PSized ps) (hl : ps.length ≤ 9223372036854775807) (hw : who.size ≤ maxLen) (hm : mill.size ≤ maxLen) (hsg : sgn = 1 ∨ sgn = -1) :
    Calls Try.prog 38 #[.slice a ps.length cap, .agg #[.string who, .string mill], .int .i64 n, .int .i64 sgn] w (ChangedRes ps who mill n sgn w) := by
  obtain ⟨W1, hW1⟩ : ∃ W1, w.alloc (.cells #[.string who, .string mill] 55) = W1 := ⟨_, rfl⟩
  have hra : RecAt (fun q : ByteArray × ByteArray => [Value.string q.1, .string q.2]) W1 w.heap.size (who, mill) := by rw [← hW1]; exact RecAt.new _ w (who, mill) 55
  have HB1 : Hid (Below w.heap.size w W1) := by rw [← hW1]; exact below_new _ _
  have HLT1 : Hid (w.heap.size < W1.heap.size) := by rw [← hW1]; unfold Hid; simp
  have HRA := Lib.hid hra
  have H := Lib.hid (h.below HB1.out)
  have HS := Lib.hid hs
  have HW := Lib.hid hw
  have HM := Lib.hid hm
  have HSG := Lib.hid hsg
  clear h hs hra hw hm hsg
  have HFAIL : Hid (¬ (partsB ps = true ∧ inB 1 1000000000 n = true) → ∀ (w1 : World) (b : Nat), Holds5 w1 b (heldL ps) → Below w.heap.size w w1 → ∀ e w', (∃ out : List Par, out.Perm (heldL ps) ∧ out.Pairwise KeyLt ∧ ResRow out w1 e w') → ∃ out g c, e = .returned (.slice (some ⟨g, 0, none⟩) out.length c) ∧ ChangedRes ps who mill n sgn w (.returned (.tuple #[.slice (some ⟨g, 0, none⟩) (List.length (α := Par) out) c, .bool false])) w') := by
    rintro hno w1 b - hb1 e w' ⟨out, hp, hu, g, c, rfl, ho, hb⟩
    exact ⟨out, g, c, rfl, false, heldL ps, out, g, c, rfl, hp, hu, own_down ho hb1.size, below_trans hb1 hb, .inl ⟨hno, rfl, rfl⟩⟩
  go_enter Try.func38, Try.ntmps38
  go_wp2_with fail
  refine (iHeld_any _ H.out HS.out hl).mono ?_
  rintro e w1 ⟨b, rfl, hbb, hm1, hb1⟩
  have hbw : w.heap.size ≤ b := by have := HLT1.out; omega
  have hr1 := HRA.out.below hb1
  have c0 : w1.cell? ⟨w.heap.size, 0, none⟩ = some (.string who) := hr1 0 _ rfl
  have c1 : w1.cell? ⟨w.heap.size, 1, none⟩ = some (.string mill) := hr1 1 _ rfl
  have HB2 := Lib.hid (below_trans HB1.out hb1)
  have HM1 := Lib.hid hm1
  have HPL := Lib.hid (held_len ps)
  clear hb1 hm1 hr1 hbb
  cases hf : partsB ps
  · go_wp2_with fail
    refine (iParts_any HM1.out (held_sized HS.out) (by have := HPL.out; omega)).mono ?_
    intro e w' hres
    obtain ⟨out, g, c, rfl, hN⟩ := HFAIL.out (fun h => by rw [hf] at h; exact absurd h.1 (by decide)) w1 b HM1.out HB2.out e w' hres
    have HN := Lib.hid hN
    clear hN hres
    go_wp2
    go_ret2
    exact HN.out
  · have hnn := in_one n
    cases hn : inB 1 1000000000 n
    · by_cases h1 : 1 ≤ n
      · have h2 : inB 0 1000000000 n = false := by rw [hn] at hnn; simpa [h1] using hnn.symm
        clear hnn
        go_wp2_with fail
        refine (iSharesOk_any _ _).mono ?_
        rintro e w' ⟨rfl, rfl⟩
        rw [h2]
        go_wp2_with fail
        refine (iParts_any HM1.out (held_sized HS.out) (by have := HPL.out; omega)).mono ?_
        intro e w' hres
        obtain ⟨out, g, c, rfl, hN⟩ := HFAIL.out (fun h => by rw [hn] at h; exact absurd h.2 (by decide)) w1 b HM1.out HB2.out e w' hres
        have HN := Lib.hid hN
        clear hN hres
        go_wp2
        go_ret2
        exact HN.out
      · clear hnn
        go_wp2_with fail
        refine (iParts_any HM1.out (held_sized HS.out) (by have := HPL.out; omega)).mono ?_
        intro e w' hres
        obtain ⟨out, g, c, rfl, hN⟩ := HFAIL.out (fun h => by rw [hn] at h; exact absurd h.2 (by decide)) w1 b HM1.out HB2.out e w' hres
        have HN := Lib.hid hN
        clear hN hres
        go_wp2
        go_ret2
        exact HN.out
    · obtain ⟨hn1, hn2⟩ := inB_true hn
      have h2 : inB 0 1000000000 n = true := by simp [inB]; omega
      have hvb := val_bd HS.out hf HW.out HM.out
      have HM2 : Hid (Holds5 w1.drew b ps) := by have := HM1.out; rw [held_yes hf] at this; exact this.block rfl
      have hv := look_val HM2.out HW.out HM.out
      obtain ⟨v, HV⟩ : ∃ v, Hid (valP ps who mill = v) := ⟨_, Lib.hid rfl⟩
      rw [HV.out] at hv hvb
      have hw1 : IntKind.i64.wrap (sgn * n) = sgn * n := IntWalk.i64_in _ (by rcases HSG.out with rfl | rfl <;> omega)
      have hw2 : IntKind.i64.wrap (v + sgn * n) = v + sgn * n := IntWalk.i64_in _ (by rcases HSG.out with rfl | rfl <;> omega)
      have h20 := (parts_true hf).1
      clear hnn
      go_wp2_with (go_at_call 54; refine (iSharesOk_any _ _).mono ?_; rintro e w' ⟨rfl, rfl⟩; rw [h2])
      refine wp_region_still_tail 13 (by kernel_rfl) (by kernel_rfl) ?_
      simp only [List.take_succ_cons, List.take_zero, List.drop_succ_cons, List.drop_zero]
      change wpStill _ _ w1.drew _ _ _
      repeat still_step
      refine wpStill_nil ?_
      clear hv
      go_wp2_with fail
      refine (iPut_any ⟨who, mill, v + sgn * n⟩ HM2.out ⟨HW.out, HM.out⟩ (by omega)).mono ?_
      rintro e w2 ⟨ok, X, rfl, hm2, hg2, hV⟩
      have HBX := Lib.hid (bgrown (show Below w.heap.size w w1.drew from below_draws HB2.out 1) HB2.out.size hg2 (fun g e => by injection e with e; omega))
      have hX := put_sized HS.out ⟨HW.out, HM.out⟩ hV
      have HXS := Lib.hid hX.1
      have hXl : X.length ≤ 1048576 := by omega
      have HMX := Lib.hid hm2
      have HVV : Hid (ChangedV ps who mill n sgn ok X) := .inr ⟨hf, hn, by rw [HV.out]; exact hV⟩
      clear hm2 hg2 hV hX
      go_wp2_with fail
      refine (iParts_any HMX.out HXS.out hXl).mono ?_
      rintro e w3 ⟨out, hp3, hu3, g, c3, rfl, ho3, hb3⟩
      have HN : Hid (ChangedRes ps who mill n sgn w (.returned (.tuple #[.slice (some ⟨g, 0, none⟩) out.length c3, .bool ok])) w3) :=
        ⟨ok, X, out, g, c3, rfl, hp3, hu3, own_down ho3 HBX.out.size, below_trans HBX.out hb3, HVV.out⟩
      clear hp3 hu3 ho3 hb3
      go_wp2
      go_ret2
      exact HN.out
end Go.Proofs.Ytpmibegfpfjdgaa
