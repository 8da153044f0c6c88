/-
  Of whatever is drawn, names that rise have none twice and each is where it is; Rises, PlaceIn and NameOk answer as the model does: the law FnNames returns true at every slice of bytes, which reads as before. No condition.
-/
import Derived.Test.YtpdafjfcjifgnaaDraw2
import Derived.Test.YtpdafjfcjifgnaaOrder
import Derived.WalkKit
import Derived.ProofKit
import Derived.OpenShut
import Derived.ShutString
import Derived.ChangeOld
import Derived.Below
namespace Go.Proofs.Ytpdafjfcjifgnaa.fnNames
open Go.ChangeShapes Go.WideShapes Go.ChangeAt Go.RowKit
open Go.ChangeMaps (open_string shut_string)
set_option linter.unusedVariables false

theorem own : ownKnob Try.prog.godebug = none := by kernel_rfl
theorem laidOut : laidOutB Try.prog = true := by kernel_rfl

/-- WHAT THE WALK IS TOLD OF A SLICE OF INTEGERS THAT CAME IN: it is nil; or it leads to a row of 'cap' cells, the numbers 'zs' (the first 'len' are its elements, the rest its spare room), each fitting its kind. -/
def IsRow (k : IntKind) (w : World) (a : Option Addr) (len cap : Nat) (zs : List Int) : Prop :=
  (a = none ∧ len = 0 ∧ cap = 0 ∧ zs = []) ∨
  ∃ x, a = some x ∧ len ≤ cap ∧ cap ≤ maxLen ∧ zs.length = cap ∧ (∀ i, i < zs.length → w.cell? (x.add i) = some (.int k (zs.getD i 0))) ∧ ∀ n ∈ zs, (Lit.int k n).wf = true

set_option maxRecDepth 100000 in
theorem walk_big (a0 : Option Addr) (len0 cap0 : Nat) (w : World) (hbig : ¬ len0 ≤ 4096) :
    Calls Try.prog 3 #[.slice a0 len0 cap0] w fun e w' => e = .returned (.bool true) ∧ Below w.heap.size w w' := by
  go_enter Try.func3, Try.ntmps3
  go_wp2_with fail
  refine (big_yes _ _ _ _ hbig).mono ?_
  rintro e w' ⟨rfl, rfl⟩
  go_wp2
  go_ret
  exact ⟨rfl, Below.refl _ _⟩

theorem sat_small {ss : List ByteArray} (h : ∀ s ∈ ss, s.size ≤ 7) : Sized ss := Sized.of h (by unfold maxLen; omega)

set_option maxRecDepth 100000 in
set_option maxHeartbeats 4000000 in
theorem walk_small (a0 : Option Addr) (len0 cap0 : Nat) (w : World) (hsrc : Src w a0 len0) :
    Calls Try.prog 3 #[.slice a0 len0 cap0] w fun e w' => e = .returned (.bool true) ∧ Below w.heap.size w w' := by
  have HSRC := Lib.hid hsrc
  clear hsrc
  go_enter Try.func3, Try.ntmps3
  go_wp2_with fail
  refine (big_any _ _ _ _ HSRC.out.small).mono ?_
  rintro e w' ⟨rfl, rfl⟩
  go_wp2_with fail
  refine (drawPlaceIn_any HSRC.out).mono ?_
  rintro e w1 ⟨b, c, ss, s, hl, hs, hsn, rfl, hst, hb1⟩
  have HS := Lib.hid hs; have HT := Lib.hid hst; have B1 := Lib.hid hb1; clear hs hst hb1
  go_wp2_with fail
  refine (iPlaceIn_any _ _ HT.out (by omega)).mono ?_
  rintro e w' ⟨rfl, rfl⟩
  go_wp2_with fail
  refine (drawRises_any (HSRC.out.kept B1.out)).mono ?_
  rintro e w2 ⟨b2, c2, rr, hl2, hs2, rfl, hst2, hb2⟩
  have HS2 := Lib.hid (sat_small hs2); have HR2 := Lib.hid hst2; have HT2 := Lib.hid (HT.out.below hb2); have B2 := Lib.hid (below_trans B1.out hb2); clear hs2 hst2 hb2
  go_wp2_with fail
  refine (iRises_any _ HR2.out (by omega) HS2.out).mono ?_
  rintro e w' ⟨rfl, rfl⟩
  go_wp2_with fail
  refine (drawNameOk_any (HSRC.out.kept B2.out)).mono ?_
  rintro e w3 ⟨t, ht, rfl, hb3⟩
  have HT3 := Lib.hid (HT2.out.below hb3); have HR3 := Lib.hid (HR2.out.below hb3); have B3 := Lib.hid (below_trans B2.out hb3); clear hb3 HT HT2 HR2 B1 B2 HSRC
  go_wp2_with fail
  refine (sPlaceIn_any _ _ HT3.out (by omega)).mono ?_
  rintro e w' ⟨rfl, rfl⟩
  go_wp2_with fail
  refine (sRises_any _ HR3.out (by omega) HS2.out).mono ?_
  rintro e w4 ⟨rfl, n4, rfl⟩
  have HT4 := Lib.hid (show Strs (w3.drewN n4) b ss from HT3.out); have HR4 := Lib.hid (show Strs (w3.drewN n4) b2 rr from HR3.out); have B4 := Lib.hid (below_draws B3.out n4); clear HT3 HR3 B3
  go_wp2_with fail
  refine (iNameOk_any _ _ (by unfold maxLen; omega)).mono ?_
  rintro e w' ⟨rfl, rfl⟩
  go_wp2_with fail
  refine (sNameOk_any _ _ (by unfold maxLen; omega)).mono ?_
  rintro e w' ⟨rfl, rfl⟩
  by_cases hp : 0 ≤ placeV ss s
  · obtain ⟨k, e, hk, hq⟩ := place_hit hp
    rw [e]
    obtain ⟨g, off, rfl, hc⟩ := strs_sat HT4.out k hk
    clear hp e
    cases hr : risesB rr
    · go_wp2
      go_loop [9] (fun i => ∃ k : Nat, k ≤ rr.length ∧ i = .int .i64 k) (fun i => rr.length - (intOf i).toNat)
      case atStart => exact ⟨0, Nat.zero_le _, rfl⟩
      case round =>
        obtain ⟨m, hm, rfl⟩ := hrel
        by_cases hlt : m < rr.length
        · go_wp2
          go_ret
          exact ⟨rfl, B4.out⟩
        · go_wp2
          go_ret
          exact ⟨rfl, B4.out⟩
    · go_wp2
      go_loop [9] (fun i => ∃ k : Nat, k ≤ rr.length ∧ i = .int .i64 k) (fun i => rr.length - (intOf i).toNat)
      case atStart => exact ⟨0, Nat.zero_le _, rfl⟩
      case round =>
        obtain ⟨m, hm, rfl⟩ := hrel
        by_cases hlt : m < rr.length
        · obtain ⟨g2, off2, rfl, hc2⟩ := strs_sat HR4.out m hlt
          have hp2 := Lib.hid (place_self hr hlt)
          have hn2 := rises_name hr hlt
          go_wp2_with (first | (go_at_call 9; refine (iPlaceIn_any _ _ HR4.out (by omega)).mono ?_; rintro e w' ⟨rfl, rfl⟩; rw [hp2.out]) | (go_at_call 15; refine (iNameOk_any _ _ (HS2.out _)).mono ?_; rintro e w' ⟨rfl, rfl⟩; rw [hn2]))
          go_round
          case rel => exact ⟨m + 1, by omega, by go_num⟩
          case measure => simp [intOf]; omega
        · go_wp2
          go_ret
          exact ⟨rfl, B4.out⟩
  · cases hr : risesB rr
    · go_wp2
      go_loop [9] (fun i => ∃ k : Nat, k ≤ rr.length ∧ i = .int .i64 k) (fun i => rr.length - (intOf i).toNat)
      case atStart => exact ⟨0, Nat.zero_le _, rfl⟩
      case round =>
        obtain ⟨m, hm, rfl⟩ := hrel
        by_cases hlt : m < rr.length
        · go_wp2
          go_ret
          exact ⟨rfl, B4.out⟩
        · go_wp2
          go_ret
          exact ⟨rfl, B4.out⟩
    · go_wp2
      go_loop [9] (fun i => ∃ k : Nat, k ≤ rr.length ∧ i = .int .i64 k) (fun i => rr.length - (intOf i).toNat)
      case atStart => exact ⟨0, Nat.zero_le _, rfl⟩
      case round =>
        obtain ⟨m, hm, rfl⟩ := hrel
        by_cases hlt : m < rr.length
        · obtain ⟨g2, off2, rfl, hc2⟩ := strs_sat HR4.out m hlt
          have hp2 := Lib.hid (place_self hr hlt)
          have hn2 := rises_name hr hlt
          go_wp2_with (first | (go_at_call 9; refine (iPlaceIn_any _ _ HR4.out (by omega)).mono ?_; rintro e w' ⟨rfl, rfl⟩; rw [hp2.out]) | (go_at_call 15; refine (iNameOk_any _ _ (HS2.out _)).mono ?_; rintro e w' ⟨rfl, rfl⟩; rw [hn2]))
          go_round
          case rel => exact ⟨m + 1, by omega, by go_num⟩
          case measure => simp [intOf]; omega
        · go_wp2
          go_ret
          exact ⟨rfl, B4.out⟩

/-! ### STEP 1: THE WALK: the Go text returns true, AND WRITES NOTHING THAT WAS THERE: 'Below w.heap.size w w'' (Derived/Below.lean: '.refl', '.alloc', '.drew', '.setCell' at a new block, '.trans'). Open each 'IsRow' by 'rcases' AHEAD of 'go_enter'; part every test ahead of the walk. -/
theorem walk (a0 : Option Addr) (len0 cap0 : Nat) (z0 : List Int) (w : World) (w0 : IsRow .u8 w a0 len0 cap0 z0) :
    Calls Try.prog 3 #[.slice a0 len0 cap0] w fun e w' => e = .returned (.bool true) ∧ Below w.heap.size w w' := by
  by_cases hbig : len0 ≤ 4096
  case neg => exact walk_big _ _ _ _ hbig
  refine walk_small _ _ _ _ ⟨fun k hk => ?_, hbig⟩
  rcases w0 with ⟨_, rfl, _, _⟩ | ⟨x, rfl, hl, _, hz, hc, hwf⟩
  · omega
  · obtain ⟨b, off, rfl, hc2⟩ := ints_at hc (by omega)
    have hk2 : k < z0.length := by omega
    have hw := hwf (z0.getD k 0) (by rw [List.getD_eq_getElem?_getD, List.getElem?_eq_getElem hk2, Option.getD_some]; exact List.getElem_mem hk2)
    have hb := bounds_u8 hw
    exact ⟨b, off, _, rfl, by omega, by omega, hc2 k hk2⟩

/-! ### THE ROW's STEP: WRITTEN OUT: LEAVE IT -/
set_option maxRecDepth 100000 in
theorem lifted (os : Os) (started : os.Started) (H : Type) (enc : TypeId × Value → H) :
    ReturnsInHanded {} Try.checked os 3 .any (Rows.fnNamesSpec.pre6 enc Try.prog Try.f3 Rows.fnNamesRow.domain false) (Rows.fnNamesSpec.post enc Try.prog Try.f3 false true false false) := by
  refine returnsInHanded_of_change (C := Try.checked) own started (by kernel_rfl) Try.func3
    (ChangeSpec.witness6 (enc := enc) (C := Try.checked) false ⟨#[], #[.slice none 0 0], []⟩ 8 (by kernel_rfl) (by kernel_rfl) (by kernel_rfl) (by kernel_rfl)) ?_
  intro W base args ds gs before hval0 hW hcnd _
  have hval : ∀ (j : Nat) t v, Try.f3.params[j]? = some t → args[j]? = some v → Value.okWide Try.prog W .any base t v := hval0
  have hW' := hW
  obtain ⟨p, q, hA0, hV, rfl, hfz, hnd⟩ := hW
  have hA : DataW.TrodAll enc Try.prog W 0 (fun _ => true) true Try.f3.params.toList args.toList ds p := hA0
  rw [Try.params3] at hA hval
  obtain ⟨v0, vs0, d0, ds0, p0, q0, hargs, rfl, rfl, h0, r0⟩ := trodAll_cons hA
  obtain ⟨rfl, rfl, rfl⟩ := trodAll_nil r0
  obtain rfl : args = #[v0] := by cases args; simp_all
  obtain ⟨rfl, rfl⟩ := trodVars_none hV
  obtain ⟨a0, len0, cap0, rfl⟩ := okWide_slice Try.underlying22 (hval 0 22 v0 rfl rfl)
  have k0 := h0
  have lt0 : ∀ x ∈ p0, x.block < W.heap.size := by obtain ⟨m, hm⟩ := k0; exact DataW.trod_lt m _ _ _ hm
  obtain ⟨z0, w0⟩ : ∃ zs, IsRow .u8 W a0 len0 cap0 zs := by
    obtain ⟨fuel, hf⟩ := h0
    rcases open_ints Try.underlying22 Try.underlying5 (by kernel_rfl) hf with ⟨hcs, _⟩ | ⟨x, l, c, zs, hcs, _, hl, hm, hz, _, hcell, hwz⟩
    · simp [Value.cells] at hcs
      obtain ⟨rfl, rfl, rfl⟩ := hcs
      exact ⟨[], .inl ⟨rfl, rfl, rfl, rfl⟩⟩
    · simp [Value.cells] at hcs
      obtain ⟨rfl, rfl, rfl⟩ := hcs
      exact ⟨zs, .inr ⟨_, rfl, hl, hm, by simpa using hz, hcell, hwz⟩⟩
  clear hA0 hval0
  refine (walk a0 len0 cap0 z0 W w0).mono fun e W' ⟨he, bel⟩ => ?_
  subst he
  exact ⟨_, rfl, _, _, _, [], _, [], hW', trodAll_mk1 (shut_bool Try.underlying4 _), (trodAll_cons_mk (Below.trod laidOut (by kernel_rfl) (of_decide_eq_true (by kernel_rfl)) k0 bel lt0) trodAll_mk0), rfl, bel.frame _, fun h => by cases h⟩

theorem over : Rows.fnNamesRow.holds Try.pinned (OpenSpec.ofChange Rows.fnNamesSpec) :=
  OpenClaim.holds_of_wide 3 Try.f3 rfl rfl rfl rfl rfl rfl rfl ⟨rfl, rfl, rfl, rfl, rfl⟩ rfl rfl rfl rfl rfl (by kernel_rfl) Try.func3 (by kernel_rfl)
    (of_decide_eq_true (by kernel_rfl)) (by unfold Func.isWrapper; first | (rw [if_pos (by decide +kernel)]; kernel_rfl) | (rw [if_neg (by decide +kernel)]; exact ⟨rfl, rfl⟩))
    (fun os started H enc _ => lifted os started H enc)

/-- ████ THE STATEMENT ████ -/
theorem proved : Rows.FnNamesSaid := over
#print axioms proved
end Go.Proofs.Ytpdafjfcjifgnaa.fnNames
