/-
  What the library's comparison of two lists of parts answers.
-/
import Derived.Test.YtpmibegfpfjdgaaPartK
namespace Go.Proofs.Ytpmibegfpfjdgaa
open Go.ChangeShapes Go.WideShapes Go.ChangeAt Go.RowKit
open Go.Shelf Go.Lib

/-- One and the same part. -/
def eqP (p q : Par) : Bool := (p.who.toList == q.who.toList) && ((p.mill.toList == q.mill.toList) && (p.shares == q.shares))
theorem eqP_iff {p q : Par} : eqP p q = true ↔ p = q := by
  unfold eqP
  simp only [Bool.and_eq_true, beq_iff_eq]
  constructor
  · rintro ⟨h1, h2, h3⟩
    obtain ⟨a, b, c⟩ := p
    obtain ⟨a', b', c'⟩ := q
    simp only at h1 h2 h3
    rw [bytes_same h1, bytes_same h2, h3]
  · rintro rfl; exact ⟨rfl, rfl, rfl⟩

theorem neqPart : NeqAt Try.prog 37 (fun x : Par => .agg x.cs.toArray) eqP := by
  refine ⟨fun x y w => ?_, GuardAt.agg _ (by kernel_rfl)⟩
  have u2 := Try.underlying2
  have u9 := Try.underlying9
  have a2 := Try.isAgg2
  have a9 := Try.isAgg9
  have z2 := Try.sizeOf2
  have z9 := Try.sizeOf9
  have hS : Try.prog.underlying 37 = some (.struct (Try.prog.fieldsOf 37)) := by kernel_rfl
  have hp : Try.prog.stoodInHeld 37 = false := by kernel_rfl
  simp only [Par.cs]
  rw [run_neq_struct, show (10000 : Nat) = 9999 + 1 from rfl, run_equalIn_agg w 9999 37 _ _ hS hp]
  simp only [Program.fieldsOf, Try.underlying37]
  go_simp
  unfold eqP
  cases h1 : (x.who.toList == y.who.toList) <;> cases h2 : (x.mill.toList == y.mill.toList) <;> cases h3 : (x.shares == y.shares) <;> simp_all

/-- Are they the same? -/
def sameP (xs ys : List Par) : Bool := Lib.allEq eqP xs ys
theorem sameP_iff : ∀ {xs ys : List Par}, sameP xs ys = true ↔ xs = ys
  | [], [] => by simp [sameP, Lib.allEq]
  | [], _ :: _ => by simp [sameP, Lib.allEq]
  | _ :: _, [] => by simp [sameP, Lib.allEq]
  | x :: xs, y :: ys => by
    have := sameP_iff (xs := xs) (ys := ys)
    unfold sameP at this ⊢
    simp only [Lib.allEq, Bool.and_eq_true, this, eqP_iff, List.cons.injEq]
theorem sameP_len {xs ys : List Par} (h : xs.length ≠ ys.length) : sameP xs ys = false := by
  cases hs : sameP xs ys
  · rfl
  · exact absurd (congrArg List.length (sameP_iff.1 hs)) h

set_option maxHeartbeats 1000000 in
set_option maxRecDepth 100000 in
theorem iEqual_any {w : World} {a : Option Addr} {g off : Nat} {ps qs : List Par} (cap cap' : Nat) (h : Recs Par.cs w a ps) (h' : Recs Par.cs w (some ⟨g, off, none⟩) qs) (hl : ps.length ≤ 9223372036854775807) (hl' : qs.length ≤ 9223372036854775807) :
    Calls Try.prog 62 #[.slice a ps.length cap, .slice (some ⟨g, off, none⟩) qs.length cap'] w fun e w' => e = .returned (.bool (sameP ps qs)) ∧ Below w.heap.size w w' := by
  have hcell : ∀ {b o : Nat} {xs : List Par}, Recs Par.cs w (some ⟨b, o, none⟩) xs → ∀ j, j < xs.length → ∀ i v, (xs[j]!).cs[i]? = some v → w.cell? ⟨b, o + j * 3 + i, none⟩ = some v := by
    intro b o xs hx j hj i v hv
    obtain ⟨b', o', e, -, hc⟩ := hx.cell Par.len (by omega) j hj
    injection e with e; injection e with e1 e2; subst e1; subst e2
    exact hc i v (by simpa [hj] using hv)
  cases a with
  | none =>
    have h0 : ps = [] := by
      cases ps with
      | nil => rfl
      | cons x r =>
        obtain ⟨b, o, e, -⟩ := h.cell Par.len (by omega) 0 (by simp)
        cases e
    subst h0
    cases qs with
    | nil =>
      clear h h' hcell
      go_enter Try.func62, Try.ntmps62
      go_wp2
      go_loop [13] (fun i => i = .int .i64 0) (fun _ => 0)
      case atStart => rfl
      case round =>
        subst hrel
        go_wp2
        go_ret
        exact ⟨rfl, Below.refl _ _⟩
    | cons x r =>
      have HN := Lib.hid (sameP_len (xs := []) (ys := x :: r) (by simp))
      have hne : ¬ ((0 : Int) = ((r.length : Int) + 1)) := by omega
      clear h h' hcell
      go_enter Try.func62, Try.ntmps62
      go_wp2
      go_ret
      exact ⟨by rw [HN.out]; rfl, Below.refl _ _⟩
  | some a =>
    by_cases h0 : 0 < ps.length
    · obtain ⟨b, o, e, -, -⟩ := h.cell Par.len (by omega) 0 h0
      injection e with e
      subst e
      have hc := AnyQ.slices_Equal equalPart 3 Try.isAgg37 Try.sizeOf37 Par.cs Par.len eqP neqPart b o ps.length cap g off qs.length cap' ps qs w (Nat.le_refl _) (Nat.le_refl _) hl hl' (hcell h) (hcell h')
      change Calls Try.prog 62 _ _ _ at hc
      refine hc.mono ?_
      rintro e w' ⟨rfl, q, rfl⟩
      exact ⟨by rw [List.take_length, List.take_length]; rfl, below_draws (Below.refl _ _) q⟩
    · have e0 : ps = [] := List.eq_nil_of_length_eq_zero (by omega)
      subst e0
      cases qs with
      | nil =>
        clear h h' hcell
        go_enter Try.func62, Try.ntmps62
        go_wp2
        go_loop [13] (fun i => i = .int .i64 0) (fun _ => 0)
        case atStart => rfl
        case round =>
          subst hrel
          go_wp2
          go_ret
          exact ⟨rfl, Below.refl _ _⟩
      | cons x r =>
        have HN := Lib.hid (sameP_len (xs := []) (ys := x :: r) (by simp))
        have hne : ¬ ((0 : Int) = ((r.length : Int) + 1)) := by omega
        clear h h' hcell
        go_enter Try.func62, Try.ntmps62
        go_wp2
        go_ret
        exact ⟨by rw [HN.out]; rfl, Below.refl _ _⟩
end Go.Proofs.Ytpmibegfpfjdgaa
