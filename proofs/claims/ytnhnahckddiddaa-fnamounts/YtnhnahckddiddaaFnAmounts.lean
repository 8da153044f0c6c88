/-
  Of whatever is drawn, Down is never more than what is exact, Up never less, and 1 at most between; Added, PartOf, AmountOk and SharesOk answer as the model does: the law FnAmounts returns true at every slice of bytes, which reads as before. No condition.
-/
import Derived.Test.YtnhnahckddiddaaDraw1
import Derived.Test.YtnhnahckddiddaaFacts1
import Derived.WalkKit
import Derived.ProofKit
import Derived.OpenShut
import Derived.ShutString
import Derived.ChangeOld
import Derived.Below
namespace Go.Proofs.Ytnhnahckddiddaa.fnAmounts
open Go.ChangeShapes Go.WideShapes Go.ChangeAt Go.RowKit
open Go.ChangeMaps (open_string shut_string)
set_option linter.unusedVariables false

theorem own : ownKnob Try.prog.godebug = none := by kernel_rfl
theorem laidOut : laidOutB Try.prog = true := by kernel_rfl

/-- WHAT THE WALK IS TOLD OF A SLICE OF INTEGERS THAT CAME IN: it is nil; or it leads to a row of 'cap' cells, the numbers 'zs' (the first 'len' are its elements, the rest its spare room), each fitting its kind. -/
def IsRow (k : IntKind) (w : World) (a : Option Addr) (len cap : Nat) (zs : List Int) : Prop :=
  (a = none ∧ len = 0 ∧ cap = 0 ∧ zs = []) ∨
  ∃ x, a = some x ∧ len ≤ cap ∧ cap ≤ maxLen ∧ zs.length = cap ∧ (∀ i, i < zs.length → w.cell? (x.add i) = some (.int k (zs.getD i 0))) ∧ ∀ n ∈ zs, (Lit.int k n).wf = true

set_option maxRecDepth 100000 in
theorem walk_big (a0 : Option Addr) (len0 cap0 : Nat) (w : World) (hbig : ¬ len0 ≤ 4096) :
    Calls Try.prog 3 #[.slice a0 len0 cap0] w fun e w' => e = .returned (.bool true) ∧ Below w.heap.size w w' := by
  go_enter Try.func3, Try.ntmps3
  go_wp2_with fail
  refine (big_yes _ _ _ _ hbig).mono ?_
  rintro e w' ⟨rfl, rfl⟩
  go_wp2
  go_ret
  exact ⟨rfl, Below.refl _ _⟩

set_option maxRecDepth 100000 in
set_option maxHeartbeats 4000000 in
theorem walk_small (a0 : Option Addr) (len0 cap0 : Nat) (w : World) (hsrc : Src w a0 len0) :
    Calls Try.prog 3 #[.slice a0 len0 cap0] w fun e w' => e = .returned (.bool true) ∧ Below w.heap.size w w' := by
  go_enter Try.func3, Try.ntmps3
  go_wp2_with fail
  refine (big_any _ _ _ _ hsrc.small).mono ?_
  rintro e w' ⟨rfl, rfl⟩
  go_wp2_with fail
  refine (drawDown_any hsrc).mono ?_
  rintro e w1 ⟨a, b, c, rfl, hb1⟩
  go_wp2_with fail
  refine (iDown_any _ _ _ _).mono ?_
  rintro e w2 ⟨rfl, hf2⟩
  go_wp2_with fail
  refine (iUp_any _ _ _ _).mono ?_
  rintro e w3 ⟨rfl, hf3⟩
  have hb3 : Below w.heap.size w w3 := (hb1.trans (hf2.1.mono hb1.size)).trans (hf3.1.mono (Nat.le_trans hb1.size hf2.1.size))
  clear hb1 hf2 hf3
  go_wp2_with fail
  refine (drawAdded_any (hsrc.kept hb3)).mono ?_
  rintro e w4 ⟨x, y, rfl, hb4⟩
  go_wp2_with fail
  refine (iAdded_any _ _ _).mono ?_
  rintro e w5 ⟨rfl, hf5⟩
  have hb5 : Below w.heap.size w w5 := (hb3.trans (hb4.mono hb3.size)).trans (hf5.1.mono (Nat.le_trans hb3.size hb4.size))
  clear hb3 hb4 hf5
  go_wp2_with fail
  refine (drawPartOf_any (hsrc.kept hb5)).mono ?_
  rintro e w6 ⟨n, p, rfl, hb6⟩
  go_wp2_with fail
  refine (iPartOf_any _ _ _).mono ?_
  rintro e w7 ⟨rfl, hf7⟩
  have hb7 : Below w.heap.size w w7 := (hb5.trans (hb6.mono hb5.size)).trans (hf7.1.mono (Nat.le_trans hb5.size hb6.size))
  clear hb5 hb6 hf7
  go_wp2_with fail
  refine (drawSharesOk_any (hsrc.kept hb7)).mono ?_
  rintro e w8 ⟨m, rfl, hb8⟩
  have hb : Below w.heap.size w w8 := hb7.trans (hb8.mono hb7.size)
  clear hb7 hb8
  go_wp2_with fail
  refine (sDown_any _ _ _ _).mono ?_
  rintro e w' ⟨rfl, rfl⟩
  go_wp2_with fail
  refine (sUp_any _ _ _ _).mono ?_
  rintro e w' ⟨rfl, rfl⟩
  go_wp2_with fail
  refine (sPartOf_any _ _ _).mono ?_
  rintro e w' ⟨rfl, rfl⟩
  go_wp2_with fail
  refine (iAmountOk_any _ _).mono ?_
  rintro e w' ⟨rfl, rfl⟩
  go_wp2_with fail
  refine (sAmountOk_any _ _).mono ?_
  rintro e w' ⟨rfl, rfl⟩
  go_wp2_with fail
  refine (iSharesOk_any _ _).mono ?_
  rintro e w' ⟨rfl, rfl⟩
  go_wp2_with fail
  refine (sSharesOk_any _ _).mono ?_
  rintro e w' ⟨rfl, rfl⟩
  go_wp2_with fail
  refine (sAdded_any _ _ _).mono ?_
  rintro e w' ⟨rfl, rfl⟩
  cases hA : okA x y
  case false =>
    cases hP : (inB 0 1000000 n && inB 0 100 p)
    case false =>
      have hk := part_none hP
      clear hP
      rw [hk]; clear hk
      cases hD : okD a b c
      case false =>
        obtain ⟨hd, hu⟩ := none_facts hD
        clear hD
        rw [hd, hu]; clear hd hu
        go_wp2
        go_ret
        exact ⟨rfl, hb⟩
      case true =>
        by_cases hz : a * b % c = 0
        · obtain ⟨d, hd, hu, d0, d1, c0, c1, q0, q1, e1, e2⟩ := exact_facts hD hz
          clear hD hz
          rw [hd, hu]; clear hd hu
          go_wp2
          go_ret
          exact ⟨rfl, hb⟩
        · obtain ⟨d, hd, hu, d0, d1, c0, c1, q0, q1, e0, e1, e2, e3⟩ := over_facts hD hz
          clear hD hz
          rw [hd, hu]; clear hd hu
          have f1 : (d + 1 == d) = false := beq_false_of_ne (by omega)
          have f2 : (d * c == a * b) = false := beq_false_of_ne (by omega)
          go_wp2
          go_ret
          exact ⟨rfl, hb⟩
    case true =>
      simp only [Bool.and_eq_true] at hP
      obtain ⟨k, hk, n0, n1, p0, p1, k0, k1, k2, k3⟩ := part_facts hP.1 hP.2
      clear hP
      rw [hk]; clear hk
      cases hD : okD a b c
      case false =>
        obtain ⟨hd, hu⟩ := none_facts hD
        clear hD
        rw [hd, hu]; clear hd hu
        go_wp2
        go_ret
        exact ⟨rfl, hb⟩
      case true =>
        by_cases hz : a * b % c = 0
        · obtain ⟨d, hd, hu, d0, d1, c0, c1, q0, q1, e1, e2⟩ := exact_facts hD hz
          clear hD hz
          rw [hd, hu]; clear hd hu
          go_wp2
          go_ret
          exact ⟨rfl, hb⟩
        · obtain ⟨d, hd, hu, d0, d1, c0, c1, q0, q1, e0, e1, e2, e3⟩ := over_facts hD hz
          clear hD hz
          rw [hd, hu]; clear hd hu
          have f1 : (d + 1 == d) = false := beq_false_of_ne (by omega)
          have f2 : (d * c == a * b) = false := beq_false_of_ne (by omega)
          go_wp2
          go_ret
          exact ⟨rfl, hb⟩
  case true =>
    obtain ⟨hs, x0, x1, y0, y1, hin⟩ := added_facts hA
    clear hA
    rw [hs]; clear hs
    cases hP : (inB 0 1000000 n && inB 0 100 p)
    case false =>
      have hk := part_none hP
      clear hP
      rw [hk]; clear hk
      cases hD : okD a b c
      case false =>
        obtain ⟨hd, hu⟩ := none_facts hD
        clear hD
        rw [hd, hu]; clear hd hu
        go_wp2_with (go_at_call 22; refine (iAmountOk_any _ _).mono ?_; rintro e w' ⟨rfl, rfl⟩; rw [hin])
        go_ret
        exact ⟨rfl, hb⟩
      case true =>
        by_cases hz : a * b % c = 0
        · obtain ⟨d, hd, hu, d0, d1, c0, c1, q0, q1, e1, e2⟩ := exact_facts hD hz
          clear hD hz
          rw [hd, hu]; clear hd hu
          go_wp2_with (go_at_call 22; refine (iAmountOk_any _ _).mono ?_; rintro e w' ⟨rfl, rfl⟩; rw [hin])
          go_ret
          exact ⟨rfl, hb⟩
        · obtain ⟨d, hd, hu, d0, d1, c0, c1, q0, q1, e0, e1, e2, e3⟩ := over_facts hD hz
          clear hD hz
          rw [hd, hu]; clear hd hu
          have f1 : (d + 1 == d) = false := beq_false_of_ne (by omega)
          have f2 : (d * c == a * b) = false := beq_false_of_ne (by omega)
          go_wp2_with (go_at_call 22; refine (iAmountOk_any _ _).mono ?_; rintro e w' ⟨rfl, rfl⟩; rw [hin])
          go_ret
          exact ⟨rfl, hb⟩
    case true =>
      simp only [Bool.and_eq_true] at hP
      obtain ⟨k, hk, n0, n1, p0, p1, k0, k1, k2, k3⟩ := part_facts hP.1 hP.2
      clear hP
      rw [hk]; clear hk
      cases hD : okD a b c
      case false =>
        obtain ⟨hd, hu⟩ := none_facts hD
        clear hD
        rw [hd, hu]; clear hd hu
        go_wp2_with (go_at_call 22; refine (iAmountOk_any _ _).mono ?_; rintro e w' ⟨rfl, rfl⟩; rw [hin])
        go_ret
        exact ⟨rfl, hb⟩
      case true =>
        by_cases hz : a * b % c = 0
        · obtain ⟨d, hd, hu, d0, d1, c0, c1, q0, q1, e1, e2⟩ := exact_facts hD hz
          clear hD hz
          rw [hd, hu]; clear hd hu
          go_wp2_with (go_at_call 22; refine (iAmountOk_any _ _).mono ?_; rintro e w' ⟨rfl, rfl⟩; rw [hin])
          go_ret
          exact ⟨rfl, hb⟩
        · obtain ⟨d, hd, hu, d0, d1, c0, c1, q0, q1, e0, e1, e2, e3⟩ := over_facts hD hz
          clear hD hz
          rw [hd, hu]; clear hd hu
          have f1 : (d + 1 == d) = false := beq_false_of_ne (by omega)
          have f2 : (d * c == a * b) = false := beq_false_of_ne (by omega)
          go_wp2_with (go_at_call 22; refine (iAmountOk_any _ _).mono ?_; rintro e w' ⟨rfl, rfl⟩; rw [hin])
          go_ret
          exact ⟨rfl, hb⟩

/-! ### STEP 1: THE WALK: the Go text returns true, AND WRITES NOTHING THAT WAS THERE: 'Below w.heap.size w w'' (Derived/Below.lean: '.refl', '.alloc', '.drew', '.setCell' at a new block, '.trans'). Open each 'IsRow' by 'rcases' AHEAD of 'go_enter'; part every test ahead of the walk. -/
theorem walk (a0 : Option Addr) (len0 cap0 : Nat) (z0 : List Int) (w : World) (w0 : IsRow .u8 w a0 len0 cap0 z0) :
    Calls Try.prog 3 #[.slice a0 len0 cap0] w fun e w' => e = .returned (.bool true) ∧ Below w.heap.size w w' := by
  by_cases hbig : len0 ≤ 4096
  case neg => exact walk_big _ _ _ _ hbig
  refine walk_small _ _ _ _ ⟨fun k hk => ?_, hbig⟩
  rcases w0 with ⟨_, rfl, _, _⟩ | ⟨x, rfl, hl, _, hz, hc, hwf⟩
  · omega
  · obtain ⟨b, off, rfl, hc2⟩ := ints_at hc (by omega)
    have hk2 : k < z0.length := by omega
    have hw := hwf (z0.getD k 0) (by rw [List.getD_eq_getElem?_getD, List.getElem?_eq_getElem hk2, Option.getD_some]; exact List.getElem_mem hk2)
    have hb := bounds_u8 hw
    exact ⟨b, off, _, rfl, by omega, by omega, hc2 k hk2⟩

/-! ### THE ROW's STEP: WRITTEN OUT: LEAVE IT -/
set_option maxRecDepth 100000 in
theorem lifted (os : Os) (started : os.Started) (H : Type) (enc : TypeId × Value → H) :
    ReturnsInHanded {} Try.checked os 3 .any (Rows.fnAmountsSpec.pre6 enc Try.prog Try.f3 Rows.fnAmountsRow.domain false) (Rows.fnAmountsSpec.post enc Try.prog Try.f3 false true false false) := by
  refine returnsInHanded_of_change (C := Try.checked) own started (by kernel_rfl) Try.func3
    (ChangeSpec.witness6 (enc := enc) (C := Try.checked) false ⟨#[], #[.slice none 0 0], []⟩ 8 (by kernel_rfl) (by kernel_rfl) (by kernel_rfl) (by kernel_rfl)) ?_
  intro W base args ds gs before hval0 hW hcnd _
  have hval : ∀ (j : Nat) t v, Try.f3.params[j]? = some t → args[j]? = some v → Value.okWide Try.prog W .any base t v := hval0
  have hW' := hW
  obtain ⟨p, q, hA0, hV, rfl, hfz, hnd⟩ := hW
  have hA : DataW.TrodAll enc Try.prog W 0 (fun _ => true) true Try.f3.params.toList args.toList ds p := hA0
  rw [Try.params3] at hA hval
  obtain ⟨v0, vs0, d0, ds0, p0, q0, hargs, rfl, rfl, h0, r0⟩ := trodAll_cons hA
  obtain ⟨rfl, rfl, rfl⟩ := trodAll_nil r0
  obtain rfl : args = #[v0] := by cases args; simp_all
  obtain ⟨rfl, rfl⟩ := trodVars_none hV
  obtain ⟨a0, len0, cap0, rfl⟩ := okWide_slice Try.underlying22 (hval 0 22 v0 rfl rfl)
  have k0 := h0
  have lt0 : ∀ x ∈ p0, x.block < W.heap.size := by obtain ⟨m, hm⟩ := k0; exact DataW.trod_lt m _ _ _ hm
  obtain ⟨z0, w0⟩ : ∃ zs, IsRow .u8 W a0 len0 cap0 zs := by
    obtain ⟨fuel, hf⟩ := h0
    rcases open_ints Try.underlying22 Try.underlying5 (by kernel_rfl) hf with ⟨hcs, _⟩ | ⟨x, l, c, zs, hcs, _, hl, hm, hz, _, hcell, hwz⟩
    · simp [Value.cells] at hcs
      obtain ⟨rfl, rfl, rfl⟩ := hcs
      exact ⟨[], .inl ⟨rfl, rfl, rfl, rfl⟩⟩
    · simp [Value.cells] at hcs
      obtain ⟨rfl, rfl, rfl⟩ := hcs
      exact ⟨zs, .inr ⟨_, rfl, hl, hm, by simpa using hz, hcell, hwz⟩⟩
  clear hA0 hval0
  refine (walk a0 len0 cap0 z0 W w0).mono fun e W' ⟨he, bel⟩ => ?_
  subst he
  exact ⟨_, rfl, _, _, _, [], _, [], hW', trodAll_mk1 (shut_bool Try.underlying4 _), (trodAll_cons_mk (Below.trod laidOut (by kernel_rfl) (of_decide_eq_true (by kernel_rfl)) k0 bel lt0) trodAll_mk0), rfl, bel.frame _, fun h => by cases h⟩

theorem over : Rows.fnAmountsRow.holds Try.pinned (OpenSpec.ofChange Rows.fnAmountsSpec) :=
  OpenClaim.holds_of_wide 3 Try.f3 rfl rfl rfl rfl rfl rfl rfl ⟨rfl, rfl, rfl, rfl, rfl⟩ rfl rfl rfl rfl rfl (by kernel_rfl) Try.func3 (by kernel_rfl)
    (of_decide_eq_true (by kernel_rfl)) (by unfold Func.isWrapper; first | (rw [if_pos (by decide +kernel)]; kernel_rfl) | (rw [if_neg (by decide +kernel)]; exact ⟨rfl, rfl⟩))
    (fun os started H enc _ => lifted os started H enc)

/-- ████ THE STATEMENT ████ -/
theorem proved : Rows.FnAmountsSaid := over
#print axioms proved
end Go.Proofs.Ytnhnahckddiddaa.fnAmounts
