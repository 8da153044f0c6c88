/-
  The library's heap at the program's queue: up, down, Push, Pop.
-/
import Derived.Test.YtkdelfadmnpkhaaQueC
namespace Go.Proofs.Ytkdelfadmnpkhaa
open Go.ChangeShapes Go.WideShapes Go.ChangeAt Go.RowKit

/-- A queue as an interface. -/
def qif (q : Nat) : Value := .iface 60 (.pointer (some ⟨q, 0, none⟩))

/-- What is known of a queue while it is turned. -/
structure Turn (w w' : World) (B q g cap : Nat) (ts us : List Tur) : Prop where
  que : Que w' B q g us cap
  perm : us.Perm ts
  but : But q g w w'
theorem Turn.len {w w' : World} {B q g cap : Nat} {ts us : List Tur} (h : Turn w w' B q g cap ts us) : us.length = ts.length := h.perm.length_eq

set_option maxHeartbeats 2000000 in
set_option maxRecDepth 100000 in
theorem hUp_any {w : World} {B q g cap j : Nat} {ts : List Tur} (h : Que w B q g ts cap) (hj : j < ts.length) (hl : ts.length ≤ 100) (hf : Fine ts) (hu : UpAt ts ts.length j) :
    Calls Try.prog 71 #[.iface 60 (.pointer (some ⟨q, 0, none⟩)), .int .i64 j] w fun e w' => e = .returned (.tuple #[]) ∧ ∃ us, Turn w w' B q g cap ts us ∧ Heaped us us.length := by
  have H := Lib.hid h
  have HF := Lib.hid hf
  have HU := Lib.hid hu
  clear h hf hu
  go_enter Try.func71, Try.ntmps71
  go_wp2_with fail
  go_loopw [1] (fun i w' => ∃ (k : Nat) (us : List Tur), k < ts.length ∧ i = .int .i64 k ∧ Turn w w' B q g cap ts us ∧ UpAt us us.length k) (fun i _ => (intOf i).toNat)
  case atStart => exact ⟨j, ts, hj, rfl, ⟨H.out, List.Perm.refl _, But.refl _ _ _⟩, HU.out⟩
  case round =>
    clear H HU
    obtain ⟨k, us, hk, rfl, ht, hu⟩ := hrel
    have hlen := ht.len
    have HT := Lib.hid ht
    have HU := Lib.hid hu
    have HLEN := Lib.hid hlen
    clear ht hu hlen
    by_cases h0 : k = 0
    · subst h0
      have HE := Lib.hid (up_top HU.out)
      go_wp2
      exact bodyPost_end (v := .tuple #[]) (by simp [results, Try.results71, go_sem]) rfl ⟨rfl, us, HT.out, HE.out⟩
    · obtain ⟨p, hp⟩ : ∃ p, (k - 1) / 2 = p := ⟨_, rfl⟩
      have hpk : p < k := by omega
      have hq : ((k : Int) - 1).tdiv 2 = (p : Int) := by rw [Int.tdiv_eq_ediv_of_nonneg (by omega)]; omega
      have hne : ((p : Int) == (k : Int)) = false := by simp; omega
      have hku : k < us.length := by rw [HLEN.out]; exact hk
      have hpu : p < us.length := by omega
      have hm := m_Less HT.out.que.ref
      have HFU := Lib.hid (HF.out.perm HT.out.perm)
      have HP := Lib.hid hp
      clear hp
      go_wp2_with fail
      refine (qLess_any cap HT.out.que.recs hku hpu HFU.out).mono ?_
      rintro e w2 ⟨rfl, hb2⟩
      have HQ2 := Lib.hid (HT.out.que.below hb2)
      have HB2 := Lib.hid (HT.out.but.trans (But.of hb2))
      clear hb2 hm
      cases hc : decide (kat us k < kat us p)
      · have HE := Lib.hid (up_done HU.out (show kat us ((k - 1) / 2) ≤ kat us k by rw [HP.out]; simpa using hc))
        go_wp2
        exact bodyPost_end (v := .tuple #[]) (by simp [results, Try.results71, go_sem]) rfl ⟨rfl, us, ⟨HQ2.out, HT.out.perm, HB2.out⟩, HE.out⟩
      · have HE := Lib.hid (up_step HU.out (by omega) hku (Nat.le_refl _) (show kat us k < kat us ((k - 1) / 2) by rw [HP.out]; simpa using hc))
        have hm2 := m_Swap HQ2.out.ref
        go_wp2_with fail
        refine (qSwap_any HQ2.out hpu hku).mono ?_
        rintro e w3 ⟨rfl, hq3, hg3⟩
        have HR : Hid (∃ (k' : Nat) (us' : List Tur), k' < ts.length ∧ Value.int .i64 (p : Int) = .int .i64 k' ∧ Turn w w3 B q g cap ts us' ∧ UpAt us' us'.length k') := by
          refine ⟨p, swapT us p k, by omega, rfl, ⟨hq3, (swapT_perm hpu hku).trans HT.out.perm, HB2.out.trans (But.row hg3)⟩, ?_⟩
          have := HE.out
          rw [HP.out] at this
          rw [swapT_len]; exact this
        clear hq3 hg3 hm2
        go_wp2
        go_roundw
        case rel => exact HR.out
        case measure => simp [intOf]; omega

set_option maxHeartbeats 2000000 in
set_option maxRecDepth 100000 in
theorem hPush_any {w : World} {B q g cap : Nat} {ts : List Tur} (t : Tur) (h : Que w B q g ts cap) (hB : B ≤ w.heap.size) (hl : ts.length ≤ 90) (hf : Fine (ts ++ [t])) (hh : Heaped ts ts.length) :
    Calls Try.prog 62 #[.iface 60 (.pointer (some ⟨q, 0, none⟩)), .iface 89 t.val] w fun e w' => e = .returned (.tuple #[]) ∧ (∃ g' cap' us, Que w' B q g' us cap' ∧ us.Perm (ts ++ [t]) ∧ Heaped us us.length) ∧ Below B w w' := by
  have H := Lib.hid h
  have HF := Lib.hid hf
  have HH := Lib.hid hh
  have hm := m_Push (w := w) (q := q)
  clear h hf hh
  go_enter Try.func62, Try.ntmps62
  go_wp2_with fail
  refine (qPush_any t H.out hB (by omega)).mono ?_
  rintro e w2 ⟨rfl, ⟨g2, c2, hq2⟩, hb2⟩
  have HQ2 := Lib.hid hq2
  have HB2 := Lib.hid hb2
  have hm2 := m_Len hq2.ref
  have hln : (ts ++ [t]).length = ts.length + 1 := by simp
  have hlo := hq2.lo
  have hglo := hq2.glo.1
  have hB2 : B ≤ w2.heap.size := Nat.le_of_lt (Nat.lt_of_le_of_lt hq2.lo hq2.hi)
  clear hq2 hb2 hm
  go_wp2_with (go_at_call 41; refine (qLen_any _ _ _ _).mono ?_; rintro e w' ⟨rfl, rfl⟩)
  refine (hUp_any (j := ts.length) HQ2.out (by simp) (by rw [hln]; omega) HF.out (by rw [hln]; exact up_start HH.out t)).mono ?_
  rintro e w3 ⟨rfl, us, ht, hh⟩
  have HR : Hid ((∃ g' cap' us, Que w3 B q g' us cap' ∧ us.Perm (ts ++ [t]) ∧ Heaped us us.length) ∧ Below B w w3) :=
    ⟨⟨g2, c2, us, ht.que, ht.perm, hh⟩, HB2.out.trans (ht.but.below hB2 hlo hglo)⟩
  clear ht hh
  go_wp2
  exact bodyPost_end (v := .tuple #[]) (by simp [results, Try.results62, go_sem]) rfl ⟨rfl, HR.out⟩
end Go.Proofs.Ytkdelfadmnpkhaa
