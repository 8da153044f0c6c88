/-
  What the program's 'areOf' answers: whether a list of parts is right, and is what its map makes.
-/
import Derived.Test.YtpmibegfpfjdgaaPartE
namespace Go.Proofs.Ytpmibegfpfjdgaa
open Go.ChangeShapes Go.WideShapes Go.ChangeAt Go.RowKit

/-- What 'areOf' answers. -/
def AreOf (ps qs : List Par) (w : World) (e : Ending) (w' : World) : Prop :=
  ∃ r : Bool, e = .returned (.bool r) ∧ (r = true ↔ (∀ p ∈ ps, partB p = true) ∧ ps.Perm qs ∧ ps.Pairwise KeyLt) ∧ Below w.heap.size w w'

set_option maxHeartbeats 4000000 in
set_option maxRecDepth 100000 in
theorem iAreOf_any {w : World} {a : Option Addr} {b : Nat} {ps qs : List Par} (cap : Nat) (hq : Holds5 w b qs) (h : Recs Par.cs w a ps) (hs : PSized ps) (hsq : PSized qs) (hl : ps.length ≤ 1048576) (hlq : qs.length ≤ 1048576) :
    Calls Try.prog 57 #[.map (some b), .slice a ps.length cap] w (AreOf ps qs w) := by
  have H := Lib.hid h
  have HS := Lib.hid hs
  have HQ := Lib.hid hq
  have HSQ := Lib.hid hsq
  have hblt : b < w.heap.size := hq.lt
  clear h hs hq hsq
  go_enter Try.func57, Try.ntmps57
  go_wp2
  go_loopw [9] (fun i wr => ∃ k : Nat, k ≤ ps.length ∧ i = .int .i64 k ∧ Below w.heap.size w wr ∧ ∀ j (hj : j < ps.length), j < k → partB ps[j] = true) (fun i _ => ps.length - (intOf i).toNat)
  case atStart => exact ⟨0, Nat.zero_le _, rfl, Below.refl _ _, fun _ _ h => by omega⟩
  case round =>
    obtain ⟨k, hk, rfl, hb, hu⟩ := hrel
    have HB := Lib.hid hb
    have HU := Lib.hid hu
    clear hb hu
    by_cases hlt : k < ps.length
    · obtain ⟨b1, off, rfl, hlb, c0, c1, c2⟩ := Par.at (H.out.below HB.out) k hlt
      go_wp2_with fail
      refine (pright_any ps[k] _ (HS.out k hlt)).mono ?_
      rintro e w2 ⟨rfl, hb2⟩
      have HB2 := Lib.hid (below_trans (below_trans HB.out (below_new _ _)) hb2)
      clear hb2
      cases hp : partB ps[k]
      · have HN : Hid (AreOf ps qs w (.returned (.bool false)) w2) :=
          ⟨false, rfl, ⟨fun h => (by cases h), fun h => (by have := h.1 _ (List.getElem_mem hlt); rw [hp] at this; cases this)⟩, HB2.out⟩
        go_wp2
        go_ret
        exact HN.out
      · have HN : Hid (∀ j (hj : j < ps.length), j < k + 1 → partB ps[j] = true) := fun j hj hjk => by
          by_cases e : j = k
          · subst e; exact hp
          · exact HU.out j hj (by omega)
        go_wp2
        go_roundw
        case rel => exact ⟨k + 1, by omega, by go_num, HB2.out, HN.out⟩
        case measure => simp [intOf]; omega
    · obtain rfl : k = ps.length := by omega
      go_wp2_with fail
      refine (iParts_any (HQ.out.below HB.out hblt) HSQ.out hlq).mono ?_
      rintro e w2 ⟨out, hp2, hu2, g, c2, rfl, ho2, hb2⟩
      have HB2 := Lib.hid (below_trans HB.out hb2)
      obtain ⟨a3, c3, e3, hr3, -⟩ := ownR_of Par.len ho2
      injection e3 with e3 e4 e5
      subst e3; subst e5
      have hol : out.length ≤ 9223372036854775807 := by rw [hp2.length_eq]; omega
      have HE := Lib.hid (hr3.1)
      clear hr3
      go_wp2_with fail
      refine (iEqual_any _ _ (H.out.below HB2.out) HE.out (by omega) hol).mono ?_
      rintro e w3 ⟨rfl, hb3⟩
      have HN : Hid (AreOf ps qs w (.returned (.bool (sameP ps out))) w3) := by
        refine ⟨_, rfl, ?_, below_trans HB2.out hb3⟩
        rw [sameP_iff]
        constructor
        · rintro rfl
          exact ⟨fun p hp => by obtain ⟨j, hj, rfl⟩ := List.getElem_of_mem hp; exact HU.out j hj hj, hp2, hu2⟩
        · rintro ⟨-, h1, h2⟩
          exact up_one (h1.trans hp2.symm) h2 hu2
      clear hb3 hb2 ho2 hp2 hu2
      go_wp2
      go_ret
      exact HN.out
end Go.Proofs.Ytpmibegfpfjdgaa
