/-
  The library's heap at the program's queue: down, Pop.
-/
import Derived.Test.YtkdelfadmnpkhaaQueD
namespace Go.Proofs.Ytkdelfadmnpkhaa
open Go.ChangeShapes Go.WideShapes Go.ChangeAt Go.RowKit

/-- The loop's word. -/
def DownRel (w : World) (B q g cap n : Nat) (ts : List Tur) (i : Value) (w' : World) : Prop :=
  ∃ (k : Nat) (us : List Tur), k ≤ n ∧ i = .int .i64 k ∧ Turn w w' B q g cap ts us ∧ DownAt us n k ∧ tatn us n = tatn ts n

set_option maxHeartbeats 4000000 in
set_option maxRecDepth 100000 in
theorem hDown_any {w : World} {B q g cap n : Nat} {ts : List Tur} (h : Que w B q g ts cap) (hn : ts.length = n + 1) (hl : n ≤ 90) (hf : Fine ts) (hu : DownAt ts n 0) :
    Calls Try.prog 72 #[.iface 60 (.pointer (some ⟨q, 0, none⟩)), .int .i64 0, .int .i64 n] w fun e w' => (∃ b, e = .returned (.bool b)) ∧ ∃ us, Turn w w' B q g cap ts us ∧ Heaped us n ∧ tatn us n = tatn ts n := by
  have H := Lib.hid h
  have HF := Lib.hid hf
  have HU := Lib.hid hu
  have HLT := Lib.hid hn
  clear h hf hu hn
  have HR0 : Hid (DownRel w B q g cap n ts (.int .i64 0) w) := ⟨0, ts, Nat.zero_le _, rfl, ⟨H.out, List.Perm.refl _, But.refl _ _ _⟩, HU.out, rfl⟩
  clear H HU
  go_enter Try.func72, Try.ntmps72
  go_wp2_with fail
  go_loopw [7] (fun i w' => DownRel w B q g cap n ts i w') (fun i _ => n - (intOf i).toNat)
  case atStart => exact HR0.out
  case round =>
    clear HR0
    obtain ⟨k, us, hk, rfl, ht, hu, hlast⟩ := hrel
    have HT := Lib.hid ht
    have HU := Lib.hid hu
    have HLAST := Lib.hid hlast
    have HFU := Lib.hid (HF.out.perm ht.perm)
    have HLU := Lib.hid (show us.length = n + 1 by rw [ht.len, HLT.out])
    clear ht hu hlast
    obtain ⟨c, hc⟩ : ∃ c, 2 * k + 1 = c := ⟨_, rfl⟩
    have hci : 2 * (k : Int) + 1 = (c : Int) := by omega
    have HC := Lib.hid hc
    clear hc
    by_cases hcn : c < n
    case neg =>
      have HE := Lib.hid (down_done HU.out (fun x hx hq => by have := HC.out; omega))
      go_wp2
      go_ret
      exact ⟨⟨_, rfl⟩, us, HT.out, HE.out, HLAST.out⟩
    have hcu : c < us.length := by rw [HLU.out]; omega
    have hkc : k < c := by have := HC.out; omega
    have hku : k < us.length := by omega
    obtain ⟨d, hd⟩ : ∃ d, c + 1 = d := ⟨_, rfl⟩
    have hdi : (c : Int) + 1 = (d : Int) := by omega
    have HD := Lib.hid hd
    clear hd
    -- which child
    have HW : Hid (∀ (w2 : World), Que w2 B q g us cap → But q g w w2 → ∀ j, (j = c ∨ j = d) → j < n → (∀ x, x < n → (x = c ∨ x = d) → kat us j ≤ kat us x) → ∀ w3, kat us j < kat us k → Que w3 B q g (swapT us k j) cap → w2.grownBy w3 (some g) → DownRel w B q g cap n ts (.int .i64 (j : Int)) w3) := by
      intro w2 h2 hb2 j hj hjn hmin w3 hlt h3 hg3
      have e1 := HC.out
      have e2 := HD.out
      have hju : j < us.length := by rw [HLU.out]; omega
      refine ⟨j, swapT us k j, by omega, rfl, ⟨h3, (swapT_perm hku hju).trans HT.out.perm, hb2.trans (But.row hg3)⟩, down_step HU.out hjn (by rw [HLU.out]; omega) (by omega) hlt (fun x hx hq => hmin x hx (by omega)), ?_⟩
      rw [swapT_at hku hju, if_neg (by omega), if_neg (by omega)]; exact HLAST.out
    have HX : Hid (∀ (w2 : World), Que w2 B q g us cap → But q g w w2 → ∀ j, (∀ x, x < n → (x = c ∨ x = d) → kat us j ≤ kat us x) → ¬ kat us j < kat us k → ∃ us, Turn w w2 B q g cap ts us ∧ Heaped us n ∧ tatn us n = tatn ts n) := by
      intro w2 h2 hb2 j hmin hlt
      have e1 := HC.out
      have e2 := HD.out
      refine ⟨us, ⟨h2, HT.out.perm, hb2⟩, down_done HU.out (fun x hx hq => ?_), HLAST.out⟩
      have := hmin x hx (by omega)
      omega
    have hm := m_Less HT.out.que.ref
    by_cases hdn : d < n
    · have hdu : d < us.length := by rw [HLU.out]; omega
      go_wp2_with fail
      refine (qLess_any cap HT.out.que.recs hdu hcu HFU.out).mono ?_
      rintro e w2 ⟨rfl, hb2⟩
      have HQ2 := Lib.hid (HT.out.que.below hb2)
      have HB2 := Lib.hid (HT.out.but.trans (But.of hb2))
      clear hb2 hm
      have hm2 := m_Less HQ2.out.ref
      cases hdc : decide (kat us d < kat us c)
      · have HMIN : Hid (∀ x, x < n → (x = c ∨ x = d) → kat us c ≤ kat us x) := by
          intro x _ hx
          have : ¬ kat us d < kat us c := by simpa using hdc
          rcases hx with rfl | rfl <;> omega
        go_wp2_with fail
        refine (qLess_any cap HQ2.out.recs hcu hku HFU.out).mono ?_
        rintro e w3 ⟨rfl, hb3⟩
        have HQ3 := Lib.hid (HQ2.out.below hb3)
        have HB3 := Lib.hid (HB2.out.trans (But.of hb3))
        clear hb3 hm2
        cases hck : decide (kat us c < kat us k)
        · have HE := Lib.hid (HX.out w3 HQ3.out HB3.out c HMIN.out (by simpa using hck))
          go_wp2
          go_ret
          exact ⟨⟨_, rfl⟩, HE.out⟩
        · have hm3 := m_Swap HQ3.out.ref
          go_wp2_with fail
          refine (qSwap_any HQ3.out hku hcu).mono ?_
          rintro e w4 ⟨rfl, hq4, hg4⟩
          have HR := Lib.hid (HW.out w3 HQ3.out HB3.out c (.inl rfl) hcn HMIN.out w4 (by simpa using hck) hq4 hg4)
          clear hq4 hg4 hm3
          go_wp2
          go_roundw
          case rel => exact HR.out
          case measure => simp [intOf]; omega
      · have HMIN : Hid (∀ x, x < n → (x = c ∨ x = d) → kat us d ≤ kat us x) := by
          intro x _ hx
          have : kat us d < kat us c := by simpa using hdc
          rcases hx with rfl | rfl <;> omega
        go_wp2_with fail
        refine (qLess_any cap HQ2.out.recs hdu hku HFU.out).mono ?_
        rintro e w3 ⟨rfl, hb3⟩
        have HQ3 := Lib.hid (HQ2.out.below hb3)
        have HB3 := Lib.hid (HB2.out.trans (But.of hb3))
        clear hb3 hm2
        cases hck : decide (kat us d < kat us k)
        · have HE := Lib.hid (HX.out w3 HQ3.out HB3.out d HMIN.out (by simpa using hck))
          go_wp2
          go_ret
          exact ⟨⟨_, rfl⟩, HE.out⟩
        · have hm3 := m_Swap HQ3.out.ref
          go_wp2_with fail
          refine (qSwap_any HQ3.out hku hdu).mono ?_
          rintro e w4 ⟨rfl, hq4, hg4⟩
          have HR := Lib.hid (HW.out w3 HQ3.out HB3.out d (.inr rfl) hdn HMIN.out w4 (by simpa using hck) hq4 hg4)
          clear hq4 hg4 hm3
          go_wp2
          go_roundw
          case rel => exact HR.out
          case measure => simp [intOf]; omega
    · have HMIN : Hid (∀ x, x < n → (x = c ∨ x = d) → kat us c ≤ kat us x) := by
        intro x hxn hx
        rcases hx with rfl | rfl <;> omega
      go_wp2_with fail
      refine (qLess_any cap HT.out.que.recs hcu hku HFU.out).mono ?_
      rintro e w3 ⟨rfl, hb3⟩
      have HQ3 := Lib.hid (HT.out.que.below hb3)
      have HB3 := Lib.hid (HT.out.but.trans (But.of hb3))
      clear hb3 hm
      cases hck : decide (kat us c < kat us k)
      · have HE := Lib.hid (HX.out w3 HQ3.out HB3.out c HMIN.out (by simpa using hck))
        go_wp2
        go_ret
        exact ⟨⟨_, rfl⟩, HE.out⟩
      · have hm3 := m_Swap HQ3.out.ref
        go_wp2_with fail
        refine (qSwap_any HQ3.out hku hcu).mono ?_
        rintro e w4 ⟨rfl, hq4, hg4⟩
        have HR := Lib.hid (HW.out w3 HQ3.out HB3.out c (.inl rfl) hcn HMIN.out w4 (by simpa using hck) hq4 hg4)
        clear hq4 hg4 hm3
        go_wp2
        go_roundw
        case rel => exact HR.out
        case measure => simp [intOf]; omega

set_option maxHeartbeats 2000000 in
set_option maxRecDepth 100000 in
theorem hPop_any {w : World} {B q g cap n : Nat} {ts : List Tur} {s : Tur} {ss : List Tur} (h : Que w B q g ts cap) (hn : ts.length = n + 1) (hl : n ≤ 90) (hf : Fine ts) (hh : Heaped ts ts.length) (hp : ts.Perm (s :: ss)) (hr : Rowed (s :: ss)) :
    Calls Try.prog 63 #[.iface 60 (.pointer (some ⟨q, 0, none⟩))] w fun e w' => e = .returned (.iface 89 s.val) ∧ ∃ us, Que w' B q g us cap ∧ us.Perm ss ∧ Heaped us us.length ∧ But q g w w' := by
  have H := Lib.hid h
  have HF := Lib.hid hf
  have HF0 := Lib.hid (first_is hh hp hr)
  have HP := Lib.hid hp
  have HDS := Lib.hid (down_start (n := n) (by rw [← hn]; exact hh) (by omega))
  have HN := Lib.hid hn
  have h0 : 0 < ts.length := by omega
  have hnl : n < ts.length := by omega
  have hlen : (ts.length : Int) = (n : Int) + 1 := by omega
  have HLEN := Lib.hid hlen
  have hr0 := h.ref
  rw [hn] at hr0
  have hm := m_Len hr0
  have hm2 := m_Swap hr0
  clear h hf hh hp hr hn hlen hr0
  have HSW := Lib.hid (show Calls Try.prog 96 #[.slice (some ⟨g, 0, none⟩) (n + 1) cap, .int .i64 0, .int .i64 n] w fun e w' => e = .returned (.tuple #[]) ∧ Que w' B q g (swapT ts 0 n) cap ∧ w.grownBy w' (some g) by
    have := qSwap_any (i := 0) (j := n) H.out h0 hnl
    rw [HN.out] at this; exact this)
  clear h0 hnl
  go_enter Try.func63, Try.ntmps63
  go_wp2_with (go_at_call 41; refine (qLen_any _ _ _ _).mono ?_; rintro e w' ⟨rfl, rfl⟩)
  refine (HSW.out).mono ?_
  rintro e w2 ⟨rfl, hq2, hg2⟩
  have HQ2 := Lib.hid hq2
  have HB2 := Lib.hid (But.row (q := q) hg2)
  clear hq2 hg2 hm hm2 HSW
  go_wp2_with fail
  refine (hDown_any HQ2.out (by rw [swapT_len]; exact HN.out) hl (HF.out.perm (swapT_perm (by rw [HN.out]; omega) (by rw [HN.out]; omega))) HDS.out).mono ?_
  rintro e w3 ⟨⟨b, rfl⟩, us, ht, hh, hlast⟩
  have HT := Lib.hid ht
  have HH := Lib.hid hh
  have HLU := Lib.hid (show us.length = n + 1 by rw [ht.len, swapT_len, HN.out])
  have HL := Lib.hid (show tatn us n = s from by
    have h0 : 0 < ts.length := by rw [HN.out]; omega
    have h1 : n < ts.length := by rw [HN.out]; omega
    rw [hlast, swapT_at h0 h1, if_pos rfl]; exact HF0.out.2)
  have HPM := Lib.hid (show us.Perm (s :: ss) from (ht.perm.trans (swapT_perm (by rw [HN.out]; omega) (by rw [HN.out]; omega))).trans HP.out)
  have hm3 := m_Pop (w := w3) (q := q)
  clear ht hh hlast
  go_wp2_with fail
  refine (qPop_any HT.out.que HLU.out (by omega)).mono ?_
  rintro e w4 ⟨rfl, hq4, hb4⟩
  have HR : Hid (∃ us, Que w4 B q g us cap ∧ us.Perm ss ∧ Heaped us us.length ∧ But q g w w4) :=
    ⟨us.take n, hq4, rest_is HLU.out HPM.out HL.out, heaped_take HH.out (by rw [HLU.out]; omega), (HB2.out.trans HT.out.but).trans hb4⟩
  clear hq4 hb4 hm3
  rw [HL.out]
  go_wp2
  go_ret
  exact ⟨rfl, HR.out⟩
end Go.Proofs.Ytkdelfadmnpkhaa
