/-
  What the program's 'put' answers: a part in place of the one with its key, or none where it has no shares.
-/
import Derived.Test.YtpmibegfpfjdgaaPartL
namespace Go.Proofs.Ytpmibegfpfjdgaa
open Go.ChangeShapes Go.WideShapes Go.ChangeAt Go.RowKit

/-- What is put. -/
def PutV (qs : List Par) (p : Par) (ok : Bool) (out : List Par) : Prop :=
  (p.shares = 0 ∧ ok = true ∧ out = without keyL (keyL p) qs) ∨
  (p.shares ≠ 0 ∧ (partB p = false ∨ (valP qs p.who p.mill = 0 ∧ qs.length = 20)) ∧ ok = false ∧ out = qs) ∨
  (p.shares ≠ 0 ∧ partB p = true ∧ ¬ (valP qs p.who p.mill = 0 ∧ qs.length = 20) ∧ ok = true ∧ out = p :: without keyL (keyL p) qs)
def PutRes (qs : List Par) (p : Par) (b : Nat) (w : World) (e : Ending) (w' : World) : Prop :=
  ∃ ok out, e = .returned (.bool ok) ∧ Holds5 w' b out ∧ w.grownBy w' (some b) ∧ PutV qs p ok out

theorem grown_of_below {w w' : World} (hb : Below w.heap.size w w') (row : Option Nat) : w.grownBy w' row := ⟨hb.os, hb.tape, hb.output, hb.size, fun k hk _ => hb.block k hk⟩

set_option maxHeartbeats 4000000 in
set_option maxRecDepth 100000 in
theorem iPut_any {w : World} {b : Nat} {qs : List Par} (p : Par) (h : Holds5 w b qs) (hs : p.who.size ≤ maxLen ∧ p.mill.size ≤ maxLen) (hl : qs.length ≤ 1048576) :
    Calls Try.prog 55 #[.map (some b), .agg #[.string p.who, .string p.mill, .int .i64 p.shares]] w (PutRes qs p b w) := by
  have hblt := h.lt
  have HS := Lib.hid hs
  obtain ⟨W1, hW1⟩ : ∃ W1, w.alloc (.cells #[.string p.who, .string p.mill, .int .i64 p.shares] 37) = W1 := ⟨_, rfl⟩
  have hra : RecAt Par.cs W1 w.heap.size p := by rw [← hW1]; exact RecAt.new Par.cs w p 37
  have hb1 : Below w.heap.size w W1 := by rw [← hW1]; exact below_new _ _
  have hlt1 : w.heap.size < W1.heap.size := by rw [← hW1]; simp
  have HM1 := Lib.hid (h.below hb1 hblt)
  have HB1 := Lib.hid hb1
  have HRA := Lib.hid hra
  have HLT1 := Lib.hid hlt1
  have hbx : ∀ W' , Below W1.heap.size W1 W' → W'.cell? ⟨w.heap.size, 0, none⟩ = some (.string p.who) ∧ W'.cell? ⟨w.heap.size, 1, none⟩ = some (.string p.mill) ∧ W'.cell? ⟨w.heap.size, 2, none⟩ = some (.int .i64 p.shares) := by
    intro W' hb
    have := hra.below hb
    exact ⟨this 0 _ rfl, this 1 _ rfl, this 2 _ rfl⟩
  have HBX := Lib.hid hbx
  obtain ⟨d0, d1, d2⟩ := hbx W1 (Below.refl _ _)
  clear h hs hra hb1 hlt1 hbx
  by_cases h0 : p.shares = 0
  · have hd : (p.shares == 0) = true := by simp [h0]
    have HH0 := Lib.hid h0
    clear h0
    go_enter Try.func55, Try.ntmps55
    go_wp2_with fail
    refine (iKey_any p _).mono ?_
    rintro e w2 ⟨rfl, hb2⟩
    obtain ⟨w3, hdl, hm3, ht3⟩ := (HM1.out.below hb2 HM1.out.lt).drop keyK Try.underlying58 (keyOf_par HS.out) 0
    have HN : Hid (PutRes qs p b w (.returned (.bool true)) w3) :=
      ⟨true, _, rfl, hm3, (grown_of_below (below_trans HB1.out hb2) (some b)).trans ht3.grown, .inl ⟨HH0.out, rfl, rfl⟩⟩
    clear hb2 hm3 ht3
    go_wp2
    go_ret
    exact HN.out
  · have hd : (p.shares == 0) = false := by simp [h0]
    have HH0 : Hid (p.shares ≠ 0) := h0
    clear h0
    go_enter Try.func55, Try.ntmps55
    go_wp2_with fail
    refine (iKey_any p _).mono ?_
    rintro e w2 ⟨rfl, hb2⟩
    obtain ⟨v, HV⟩ : ∃ v, Hid (valP qs p.who p.mill = v) := ⟨_, Lib.hid rfl⟩
    have hv := look_val (HM1.out.below hb2 HM1.out.lt) HS.out.1 HS.out.2
    rw [HV.out] at hv
    obtain ⟨e0, e1, e2⟩ := HBX.out w2 hb2
    have HB2 := Lib.hid hb2
    clear hb2
    go_wp2_with fail
    refine (pright_any p _ HS.out).mono ?_
    rintro e w3 ⟨rfl, hb3⟩
    have HB3 := Lib.hid (below_trans HB2.out hb3)
    have HM3 := Lib.hid ((HM1.out.below HB3.out HM1.out.lt).block (w' := w3.drew) rfl)
    have hlen := (HM1.out.below HB3.out HM1.out.lt).len Try.underlying58 3
    obtain ⟨f0, f1, f2⟩ := HBX.out w3 HB3.out
    clear hb3 hv
    cases hp : partB p
    · have HN : Hid (PutRes qs p b w (.returned (.bool false)) w3) :=
        ⟨false, qs, rfl, HM3.out.block rfl, grown_of_below (below_trans HB1.out HB3.out) (some b), .inr (.inl ⟨HH0.out, .inl hp, rfl, rfl⟩)⟩
      go_wp2
      go_ret
      exact HN.out
    · have HLN : Hid (qs.length < maxLen) := by unfold Hid maxLen; omega
      have HB3' := Lib.hid (show Below W1.heap.size W1 w3.drew from below_draws HB3.out 1)
      by_cases hv0 : v = 0
      · by_cases h20 : qs.length = 20
        · have HN : Hid (PutRes qs p b w (.returned (.bool false)) w3) :=
            ⟨false, qs, rfl, HM3.out.block rfl, grown_of_below (below_trans HB1.out HB3.out) (some b), .inr (.inl ⟨HH0.out, .inr ⟨HV.out.trans hv0, h20⟩, rfl, rfl⟩)⟩
          subst hv0
          go_wp2
          go_ret
          exact HN.out
        · have HNO : Hid (¬ (valP qs p.who p.mill = 0 ∧ qs.length = 20)) := fun h => h20 h.2
          have h20b : ((qs.length : Int) == 20) = false := by simp; omega
          subst hv0
          clear h20
          go_wp2_with fail
          go_region_with (first | (go_at_call 56; refine (iKey_any p _).mono ?_; rintro e w4 ⟨rfl, hb4⟩; obtain ⟨w5, hup, hm5, hg5⟩ := store_step HM3.out hb4 HS.out HLN.out; have g2 := (HBX.out w4 (below_trans HB3'.out hb4)).2.2; have HR5 : Hid (PutRes qs p b w (.returned (.bool true)) w5) := ⟨true, _, rfl, hm5, (grown_of_below (below_trans HB1.out (below_trans HB3'.out hb4)) (some b)).trans hg5, .inr (.inr ⟨HH0.out, hp, HNO.out, rfl, rfl⟩)⟩; clear hb4 hm5 hg5))
          all_goals
            go_wp2
            go_ret
            exact HR5.out
      · have HNO : Hid (¬ (valP qs p.who p.mill = 0 ∧ qs.length = 20)) := fun h => hv0 (HV.out.symm.trans h.1)
        have hvb : (v == 0) = false := by simp [hv0]
        clear hv0
        go_wp2_with fail
        go_region_with (first | (go_at_call 56; refine (iKey_any p _).mono ?_; rintro e w4 ⟨rfl, hb4⟩; obtain ⟨w5, hup, hm5, hg5⟩ := store_step HM3.out hb4 HS.out HLN.out; have g2 := (HBX.out w4 (below_trans HB3'.out hb4)).2.2; have HR5 : Hid (PutRes qs p b w (.returned (.bool true)) w5) := ⟨true, _, rfl, hm5, (grown_of_below (below_trans HB1.out (below_trans HB3'.out hb4)) (some b)).trans hg5, .inr (.inr ⟨HH0.out, hp, HNO.out, rfl, rfl⟩)⟩; clear hb4 hm5 hg5))
        all_goals
          go_wp2
          go_ret
          exact HR5.out
end Go.Proofs.Ytpmibegfpfjdgaa
