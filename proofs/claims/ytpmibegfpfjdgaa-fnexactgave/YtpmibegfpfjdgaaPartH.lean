/-
  What the program's 'held' answers: whether a list of parts is right, and the map that holds it, or nothing.
-/
import Derived.Test.YtpmibegfpfjdgaaPartA
import Derived.Carry
namespace Go.Proofs.Ytpmibegfpfjdgaa
open Go.ChangeShapes Go.WideShapes Go.ChangeAt Go.RowKit

/-- What the map holds behind the first k. -/
noncomputable def accK (ps : List Par) : Nat → List Par
  | 0 => []
  | k + 1 => patn ps k :: without keyL (keyL (patn ps k)) (accK ps k)
theorem accK_sub (ps : List Par) : ∀ k, k ≤ ps.length → ∀ p ∈ accK ps k, p ∈ ps
  | 0, _, p, hp => by cases hp
  | k + 1, hk, p, hp => by
    rcases List.mem_cons.1 hp with rfl | hp
    · rw [patn_eq (by omega)]; exact List.getElem_mem _
    · exact accK_sub ps k (by omega) p ((without_sub _ _).subset hp)
theorem accK_len (ps : List Par) : ∀ k, (accK ps k).length ≤ k
  | 0 => Nat.le_refl _
  | k + 1 => by
    have h1 := accK_len ps k
    have h2 := (without_sub (kl := keyL) (keyL (patn ps k)) (accK ps k)).length_le
    simp only [accK, List.length_cons]
    omega
theorem accK_sized {ps : List Par} (hs : PSized ps) (k : Nat) (hk : k ≤ ps.length) : PSized (accK ps k) := by
  rw [psized_mem] at hs ⊢
  exact fun p hp => hs p (accK_sub ps k hk p hp)
theorem keys_of {ps : List Par} (hs : PSized ps) : ∀ p ∈ ps, Maps.KeysOf Try.prog 55 (keyL p) := fun p hp => ⟨_, keyOf_par (psized_mem.1 hs p hp)⟩
/-- Of a list that rises nothing is lost. -/
theorem accK_up {ps : List Par} (hs : PSized ps) (hu : ps.Pairwise KeyLt) : ∀ k, k ≤ ps.length → accK ps k = (ps.take k).reverse
  | 0, _ => by simp [accK]
  | k + 1, hk => by
    have hk' : k < ps.length := by omega
    have ih := accK_up hs hu k (by omega)
    have ha := up_apart hs hu
    rw [accK, patn_eq hk', without_none keyK (fun p hp => keys_of hs p (accK_sub ps k (by omega) p hp)), ih, List.take_succ_eq_append_getElem hk', List.reverse_append]
    · rfl
    · intro p hp e
      rw [ih, List.mem_reverse] at hp
      obtain ⟨j, hj, rfl⟩ := List.getElem_of_mem hp
      rw [List.length_take] at hj
      rw [List.getElem_take] at e
      exact (List.pairwise_iff_getElem.1 ha) j k (by omega) hk' (by omega) e

/-- What it holds. -/
noncomputable def heldL (ps : List Par) : List Par := if partsB ps = true then ps else []
theorem held_yes {ps : List Par} (h : partsB ps = true) : heldL ps = ps := by rw [heldL, if_pos h]
theorem held_no {ps : List Par} (h : partsB ps = false) : heldL ps = [] := by rw [heldL, if_neg (by rw [h]; decide)]
def HeldRes (ps : List Par) (w : World) (e : Ending) (w' : World) : Prop :=
  ∃ b, e = .returned (.tuple #[.map (some b), .bool (partsB ps)]) ∧ w.heap.size ≤ b ∧ Holds5 w' b (heldL ps) ∧ Below w.heap.size w w'

theorem store_step {W w4 : World} {b : Nat} {qs : List Par} {p : Par} (hm : Holds5 W b qs) (hb : Below W.heap.size W w4) (hs : p.who.size ≤ maxLen ∧ p.mill.size ≤ maxLen) (hn : qs.length < maxLen) :
    ∃ w5, (Instr.mapUpdate 58 (.map (some b)) (.agg #[.string p.who, .string p.mill]) (.int .i64 p.shares)).run Try.prog w4 = .ok () w5 ∧ Holds5 w5 b (p :: without keyL (keyL p) qs) ∧ w4.grownBy w5 (some b) := by
  obtain ⟨w5, h1, h2, h3⟩ := MapIs.store keyK Try.underlying58 (hm.below hb hm.lt) hn (x := p) (keyOf_par hs) (show sharesR (.int .i64 p.shares) = some (sharesD p, []) from rfl)
  exact ⟨w5, h1, h2, h3.grown⟩

set_option maxHeartbeats 4000000 in
set_option maxRecDepth 100000 in
theorem iHeld_any {w : World} {a : Option Addr} {ps : List Par} (cap : Nat) (h : Recs Par.cs w a ps) (hs : PSized ps) (hl : ps.length ≤ 9223372036854775807) :
    Calls Try.prog 40 #[.slice a ps.length cap] w (HeldRes ps w) := by
  have hmm := @run_makeMap Try.prog
  have H := Lib.hid h
  have HS := Lib.hid hs
  clear h hs
  by_cases h20 : ps.length ≤ 20
  · have HM0 := Lib.hid (MapIs.made (P := Try.prog) (k := 55) (R := sharesR) (kl := keyL) (vd := sharesD) w)
    go_enter Try.func40, Try.ntmps40
    go_wp2
    clear hmm
    go_loopw [14] (fun i wr => ∃ k : Nat, k ≤ ps.length ∧ i = .int .i64 k ∧ Holds5 wr w.heap.size (accK ps k) ∧ Below w.heap.size w wr) (fun i _ => ps.length - (intOf i).toNat)
    case atStart => exact ⟨0, Nat.zero_le _, rfl, HM0.out, below_new _ _⟩
    case round =>
      clear HM0
      obtain ⟨k, hk, rfl, hm, hb⟩ := hrel
      have HB := Lib.hid hb
      have HM := Lib.hid hm
      clear hb hm
      by_cases hlt : k < ps.length
      · obtain ⟨b1, off, rfl, hlb, c0, c1, c2⟩ := Par.at (H.out.below HB.out) k hlt
        go_wp2_with fail
        obtain ⟨W3, hW3⟩ : ∃ W3, wr.alloc (.cells #[.string ps[k].who, .string ps[k].mill, .int .i64 ps[k].shares] 37) = W3 := ⟨_, rfl⟩
        have hra := RecAt.new Par.cs wr ps[k] 37
        have d0 : W3.cell? ⟨wr.heap.size, 0, none⟩ = some (.string ps[k].who) := by rw [← hW3]; exact hra 0 _ rfl
        have d1 : W3.cell? ⟨wr.heap.size, 1, none⟩ = some (.string ps[k].mill) := by rw [← hW3]; exact hra 1 _ rfl
        have d2 : W3.cell? ⟨wr.heap.size, 2, none⟩ = some (.int .i64 ps[k].shares) := by rw [← hW3]; exact hra 2 _ rfl
        have HB3 : Hid (Below w.heap.size w W3.drew) := by rw [← hW3]; exact below_draws (below_trans HB.out (below_new _ _)) 1
        have HM3 : Hid (Holds5 W3.drew w.heap.size (accK ps k)) := by rw [← hW3]; exact HM.out.below (below_draws (below_new _ _) 1) HM.out.lt
        have HLT : Hid (wr.heap.size < W3.drew.heap.size) := by rw [← hW3]; show wr.heap.size < (wr.alloc _).heap.size; simp
        have HD2 : Hid (W3.drew.cell? ⟨wr.heap.size, 2, none⟩ = some (.int .i64 ps[k].shares)) := d2
        have HLN : Hid ((accK ps k).length < maxLen) := by have := accK_len ps k; unfold Hid maxLen; omega
        have HAK : Hid (ps[k] :: without keyL (keyL ps[k]) (accK ps k) = accK ps (k + 1)) := by unfold Hid; rw [accK, patn_eq hlt]
        rw [hW3]
        clear hW3 hra c0 c1 c2 HM HB
        go_region_with (first | (go_at_call 56; refine (iKey_any ps[k] _).mono ?_; rintro e w4 ⟨rfl, hb4⟩; obtain ⟨w5, hup, hm5, hg5⟩ := store_step HM3.out hb4 (HS.out k hlt) HLN.out; have e2 := (hb4.cell (p := ⟨wr.heap.size, 2, none⟩) HLT.out).trans HD2.out; have HR5 : Hid (Holds5 w5 w.heap.size (accK ps (k + 1)) ∧ Below w.heap.size w w5) := ⟨(by rw [← HAK.out]; exact hm5), bgrown (below_trans HB3.out hb4) (Nat.le_trans HB3.out.size hb4.size) hg5 (fun g e => (by injection e with e; omega))⟩; clear hb4 hm5 hg5))
        all_goals
          go_wp2
          go_roundw
          case rel => exact ⟨k + 1, by omega, by go_num, HR5.out.1, HR5.out.2⟩
          case measure => simp [intOf]; omega
      · obtain rfl : k = ps.length := by omega
        have HAL := Lib.hid (accK_len ps ps.length)
        go_wp2_with fail
        refine (iAreOf_any _ HM.out (H.out.below HB.out) HS.out (accK_sized HS.out _ (Nat.le_refl _)) (by omega) (by have := HAL.out; omega)).mono ?_
        rintro e w2 ⟨r, rfl, hr, hb2⟩
        have HB2 := Lib.hid (below_trans HB.out hb2)
        have HM2 := Lib.hid (HM.out.below hb2 HM.out.lt)
        have HRP : Hid (r = partsB ps) := by
          apply Bool.eq_iff_iff.2
          rw [hr, parts_pair]
          constructor
          · rintro ⟨h1, -, h2⟩; exact ⟨h20, h1, h2⟩
          · rintro ⟨-, h1, h2⟩
            refine ⟨h1, ?_, h2⟩
            rw [accK_up HS.out h2 _ (Nat.le_refl _), List.take_length]
            exact (List.reverse_perm ps).symm
        clear hr hb2 HM HB
        cases r
        · obtain ⟨w3, hcl, hm3, ht3⟩ := HM2.out.clear Try.underlying58 0
          have HN : Hid (HeldRes ps w (.returned (.tuple #[.map (some w.heap.size), .bool false])) w3) :=
            ⟨_, by rw [HRP.out], Nat.le_refl _, by rw [held_no HRP.out.symm]; exact hm3, bgrown HB2.out HB2.out.size ht3.grown (fun g e => by injection e with e; omega)⟩
          clear hm3 ht3
          go_wp2
          go_ret2
          exact HN.out
        · have HN : Hid (HeldRes ps w (.returned (.tuple #[.map (some w.heap.size), .bool true])) w2) := by
            refine ⟨_, by rw [HRP.out], Nat.le_refl _, ?_, HB2.out⟩
            rw [held_yes HRP.out.symm]
            refine HM2.out.perm keyK ?_
            rw [accK_up HS.out (parts_pair.1 HRP.out.symm).2.2 _ (Nat.le_refl _), List.take_length]
            exact List.reverse_perm ps
          go_wp2
          go_ret2
          exact HN.out
  · have HN : Hid (HeldRes ps w (.returned (.tuple #[.map (some w.heap.size), .bool false])) (w.alloc (.map #[] 0))) := by
      have hp := parts_long h20
      exact ⟨_, by rw [hp], Nat.le_refl _, by rw [held_no hp]; exact MapIs.made w, below_new _ _⟩
    have hgt : (20 : Int) < (ps.length : Int) := by omega
    go_enter Try.func40, Try.ntmps40
    go_wp2
    go_ret2
    exact HN.out
end Go.Proofs.Ytpmibegfpfjdgaa
