/-
  No cell of these rows narrows 'for every input' (looked for: loops, veiled, ifaces, maps, wideKeys, modest, calm, conditions, laid).
  DERIVED. THE GIVEN ROWS OF THIS SEAT. 8 by the template 'for every input the law returns true; each argument reads behind the call as it read before'; 0 by the template 'total and deterministic' (their statements: YtkdelfadmnpkhaaTotals.lean).
  GIVEN WITH THE SEED: the statements are not yours to turn. If you find one false, say at which input.
  Laid BY PROGRAM, IN A SANDBOX (cutbox-rows.mjs): the forced cells as the released guide's own fill.sh prints them over the translation f9cab9034a3e45eb… (all of the seat's roots in one cut). By AI agents, Wed Nov 11 2026. No macro, syntax, notation, axiom, sorry.
-/
import Derived.Test.YtkdelfadmnpkhaaChecked
import GoSem.Claim
import GoSem.ClaimJoined
import GoSem.ClaimMapViews
import Derived.JoinedTies
import Derived.KernelRfl
namespace Go.Proofs.Ytkdelfadmnpkhaa
/- THE CELL 'sum', in the pinned program and in every row, IS THE sha256 OF THE DUMP (.gsa) THAT YtkdelfadmnpkhaaProg.lean LOADS. Nothing in Lean hashes anything: it is a label: what it is worth is what the hold of that sum in a sandbox is worth. -/
noncomputable def Try.pinned : Pinned := { name := "ytkdelfadmnpkhaa", sum := "f9cab9034a3e45ebbc83f1fe30176f21f14dfe09b00345e4326e8c231c524ddf", checked := Try.checked }
namespace Rows
def none {H : Type} : Left H := { results := [], args := [] }

/-- 'laws.FnWaits': WHATEVER THE INPUT: true; the input reads as it did. -/
def fnWaitsSpec : ChangeSpec := { name := "fnWaits", fn := fun _ => fun
  | [d] => { results := [.lit (.bool true)], args := [d] }
  | _ => none }
def fnWaitsRow : OpenClaim := { program := "ytkdelfadmnpkhaa", sum := "f9cab9034a3e45ebbc83f1fe30176f21f14dfe09b00345e4326e8c231c524ddf", func := "loop.example/g00614/laws.FnWaits", spec := "fnWaits", unfollowed := true, recurses := true, apart := false }
def FnWaitsSaid : Prop := fnWaitsRow.holds Try.pinned (OpenSpec.ofChange fnWaitsSpec)

/-- ITS FALSE NEIGHBOUR: 'it returns false'. Refute it at one input. -/
def fnWaitsWrong : ChangeSpec := { name := "fnWaits", fn := fun _ => fun
  | [d] => { results := [.lit (.bool false)], args := [d] }
  | _ => none }
def FnWaitsWrongFalsely : Prop := fnWaitsRow.holds Try.pinned (OpenSpec.ofChange fnWaitsWrong)

/-- 'laws.FnFinedWaits': WHATEVER THE INPUT: true; the input reads as it did. -/
def fnFinedWaitsSpec : ChangeSpec := { name := "fnFinedWaits", fn := fun _ => fun
  | [d] => { results := [.lit (.bool true)], args := [d] }
  | _ => none }
def fnFinedWaitsRow : OpenClaim := { program := "ytkdelfadmnpkhaa", sum := "f9cab9034a3e45ebbc83f1fe30176f21f14dfe09b00345e4326e8c231c524ddf", func := "loop.example/g00614/laws.FnFinedWaits", spec := "fnFinedWaits", unfollowed := true, recurses := true, apart := false }
def FnFinedWaitsSaid : Prop := fnFinedWaitsRow.holds Try.pinned (OpenSpec.ofChange fnFinedWaitsSpec)

/-- ITS FALSE NEIGHBOUR: 'it returns false'. Refute it at one input. -/
def fnFinedWaitsWrong : ChangeSpec := { name := "fnFinedWaits", fn := fun _ => fun
  | [d] => { results := [.lit (.bool false)], args := [d] }
  | _ => none }
def FnFinedWaitsWrongFalsely : Prop := fnFinedWaitsRow.holds Try.pinned (OpenSpec.ofChange fnFinedWaitsWrong)

/-- 'laws.FnExactWaitsOk': WHATEVER THE INPUT: true; the input reads as it did. -/
def fnExactWaitsOkSpec : ChangeSpec := { name := "fnExactWaitsOk", fn := fun _ => fun
  | [d] => { results := [.lit (.bool true)], args := [d] }
  | _ => none }
def fnExactWaitsOkRow : OpenClaim := { program := "ytkdelfadmnpkhaa", sum := "f9cab9034a3e45ebbc83f1fe30176f21f14dfe09b00345e4326e8c231c524ddf", func := "loop.example/g00614/laws.FnExactWaitsOk", spec := "fnExactWaitsOk", unfollowed := true, recurses := true, apart := false }
def FnExactWaitsOkSaid : Prop := fnExactWaitsOkRow.holds Try.pinned (OpenSpec.ofChange fnExactWaitsOkSpec)

/-- ITS FALSE NEIGHBOUR: 'it returns false'. Refute it at one input. -/
def fnExactWaitsOkWrong : ChangeSpec := { name := "fnExactWaitsOk", fn := fun _ => fun
  | [d] => { results := [.lit (.bool false)], args := [d] }
  | _ => none }
def FnExactWaitsOkWrongFalsely : Prop := fnExactWaitsOkRow.holds Try.pinned (OpenSpec.ofChange fnExactWaitsOkWrong)

/-- 'laws.FnExactWaiting': WHATEVER THE INPUT: true; the input reads as it did. -/
def fnExactWaitingSpec : ChangeSpec := { name := "fnExactWaiting", fn := fun _ => fun
  | [d1, d2] => { results := [.lit (.bool true)], args := [d1, d2] }
  | _ => none }
def fnExactWaitingRow : OpenClaim := { program := "ytkdelfadmnpkhaa", sum := "f9cab9034a3e45ebbc83f1fe30176f21f14dfe09b00345e4326e8c231c524ddf", func := "loop.example/g00614/laws.FnExactWaiting", spec := "fnExactWaiting", unfollowed := true, recurses := true, apart := false }
def FnExactWaitingSaid : Prop := fnExactWaitingRow.holds Try.pinned (OpenSpec.ofChange fnExactWaitingSpec)

/-- ITS FALSE NEIGHBOUR: 'it returns false'. Refute it at one input. -/
def fnExactWaitingWrong : ChangeSpec := { name := "fnExactWaiting", fn := fun _ => fun
  | [d1, d2] => { results := [.lit (.bool false)], args := [d1, d2] }
  | _ => none }
def FnExactWaitingWrongFalsely : Prop := fnExactWaitingRow.holds Try.pinned (OpenSpec.ofChange fnExactWaitingWrong)

/-- 'laws.FnExactRipeAt': WHATEVER THE INPUT: true; the input reads as it did. -/
def fnExactRipeAtSpec : ChangeSpec := { name := "fnExactRipeAt", fn := fun _ => fun
  | [d1, d2] => { results := [.lit (.bool true)], args := [d1, d2] }
  | _ => none }
def fnExactRipeAtRow : OpenClaim := { program := "ytkdelfadmnpkhaa", sum := "f9cab9034a3e45ebbc83f1fe30176f21f14dfe09b00345e4326e8c231c524ddf", func := "loop.example/g00614/laws.FnExactRipeAt", spec := "fnExactRipeAt", unfollowed := true, recurses := true, apart := false }
def FnExactRipeAtSaid : Prop := fnExactRipeAtRow.holds Try.pinned (OpenSpec.ofChange fnExactRipeAtSpec)

/-- ITS FALSE NEIGHBOUR: 'it returns false'. Refute it at one input. -/
def fnExactRipeAtWrong : ChangeSpec := { name := "fnExactRipeAt", fn := fun _ => fun
  | [d1, d2] => { results := [.lit (.bool false)], args := [d1, d2] }
  | _ => none }
def FnExactRipeAtWrongFalsely : Prop := fnExactRipeAtRow.holds Try.pinned (OpenSpec.ofChange fnExactRipeAtWrong)

/-- 'laws.FnExactFined': WHATEVER THE INPUT: true; the input reads as it did. -/
def fnExactFinedSpec : ChangeSpec := { name := "fnExactFined", fn := fun _ => fun
  | [d1, d2, d3] => { results := [.lit (.bool true)], args := [d1, d2, d3] }
  | _ => none }
def fnExactFinedRow : OpenClaim := { program := "ytkdelfadmnpkhaa", sum := "f9cab9034a3e45ebbc83f1fe30176f21f14dfe09b00345e4326e8c231c524ddf", func := "loop.example/g00614/laws.FnExactFined", spec := "fnExactFined", unfollowed := true, recurses := true, apart := false }
def FnExactFinedSaid : Prop := fnExactFinedRow.holds Try.pinned (OpenSpec.ofChange fnExactFinedSpec)

/-- ITS FALSE NEIGHBOUR: 'it returns false'. Refute it at one input. -/
def fnExactFinedWrong : ChangeSpec := { name := "fnExactFined", fn := fun _ => fun
  | [d1, d2, d3] => { results := [.lit (.bool false)], args := [d1, d2, d3] }
  | _ => none }
def FnExactFinedWrongFalsely : Prop := fnExactFinedRow.holds Try.pinned (OpenSpec.ofChange fnExactFinedWrong)

/-- 'laws.FnExactWaitsFor': WHATEVER THE INPUT: true; the input reads as it did. -/
def fnExactWaitsForSpec : ChangeSpec := { name := "fnExactWaitsFor", fn := fun _ => fun
  | [d1, d2] => { results := [.lit (.bool true)], args := [d1, d2] }
  | _ => none }
def fnExactWaitsForRow : OpenClaim := { program := "ytkdelfadmnpkhaa", sum := "f9cab9034a3e45ebbc83f1fe30176f21f14dfe09b00345e4326e8c231c524ddf", func := "loop.example/g00614/laws.FnExactWaitsFor", spec := "fnExactWaitsFor", unfollowed := true, recurses := true, apart := false }
def FnExactWaitsForSaid : Prop := fnExactWaitsForRow.holds Try.pinned (OpenSpec.ofChange fnExactWaitsForSpec)

/-- ITS FALSE NEIGHBOUR: 'it returns false'. Refute it at one input. -/
def fnExactWaitsForWrong : ChangeSpec := { name := "fnExactWaitsFor", fn := fun _ => fun
  | [d1, d2] => { results := [.lit (.bool false)], args := [d1, d2] }
  | _ => none }
def FnExactWaitsForWrongFalsely : Prop := fnExactWaitsForRow.holds Try.pinned (OpenSpec.ofChange fnExactWaitsForWrong)

/-- 'laws.FnExactAmountIn': WHATEVER THE INPUT: true; the input reads as it did. -/
def fnExactAmountInSpec : ChangeSpec := { name := "fnExactAmountIn", fn := fun _ => fun
  | [d] => { results := [.lit (.bool true)], args := [d] }
  | _ => none }
def fnExactAmountInRow : OpenClaim := { program := "ytkdelfadmnpkhaa", sum := "f9cab9034a3e45ebbc83f1fe30176f21f14dfe09b00345e4326e8c231c524ddf", func := "loop.example/g00614/laws.FnExactAmountIn", spec := "fnExactAmountIn", unfollowed := true, recurses := true, apart := false }
def FnExactAmountInSaid : Prop := fnExactAmountInRow.holds Try.pinned (OpenSpec.ofChange fnExactAmountInSpec)

/-- ITS FALSE NEIGHBOUR: 'it returns false'. Refute it at one input. -/
def fnExactAmountInWrong : ChangeSpec := { name := "fnExactAmountIn", fn := fun _ => fun
  | [d] => { results := [.lit (.bool false)], args := [d] }
  | _ => none }
def FnExactAmountInWrongFalsely : Prop := fnExactAmountInRow.holds Try.pinned (OpenSpec.ofChange fnExactAmountInWrong)

/- THE SECOND FORM. 'bulk': how many values and letters a reading holds, each counted each time it is reached (what is shared counts as often as it is met; a slice's spare places count too). A statement '..UptoSaid' is the law's where the arguments, and the package variables that the reading takes, are together of bulk at most 1048576: NARROWER than '..Said'. Prove '..Said' where nothing that the law and all that it calls make is longer than what came in: it says more and counts as full. Else prove '..UptoSaid'. A law counts once. -/
mutual
def uptoBulk {H : Type} : DataW H → Nat
  | .lit (.string bytes) => bytes.length + 1
  | .lit _ => 1
  | .nil => 1
  | .ptr d => uptoBulk d + 1
  | .slice elems spare => uptoBulkAll elems + uptoBulkAll spare + 1
  | .agg parts => uptoBulkAll parts + 1
  | .iface _ d => uptoBulk d + 1
  | .map entries => uptoBulkEntries entries + 1
  | .held _ => 1
def uptoBulkAll {H : Type} : List (DataW H) → Nat
  | [] => 0
  | d :: r => uptoBulk d + uptoBulkAll r
def uptoBulkEntries {H : Type} : List (Lit × DataW H) → Nat
  | [] => 0
  | x :: r => uptoBulkEntry x + uptoBulkEntries r
def uptoBulkEntry {H : Type} : Lit × DataW H → Nat
  | (.string bytes, d) => bytes.length + uptoBulk d + 1
  | (_, d) => uptoBulk d + 1
 end
def uptoSmall : (H : Type) → List (DataW H) → Bool := fun _ ds => decide (uptoBulkAll ds ≤ 1048576)
def OpenSpec.upto (s : _root_.Go.ChangeSpec) : _root_.Go.OpenSpec := { _root_.Go.OpenSpec.ofChange s with cond := some uptoSmall }

/-- 'laws.FnWaits', WHERE WHAT IT READS IS OF BULK AT MOST 1048576: true; the input reads as it did. -/
def fnWaitsUptoRow : OpenClaim := { program := "ytkdelfadmnpkhaa", sum := "f9cab9034a3e45ebbc83f1fe30176f21f14dfe09b00345e4326e8c231c524ddf", func := "loop.example/g00614/laws.FnWaits", spec := "fnWaits", unfollowed := true, recurses := true, apart := false, narrowed := true }
def FnWaitsUptoSaid : Prop := fnWaitsUptoRow.holds Try.pinned (OpenSpec.upto fnWaitsSpec)

/-- 'laws.FnFinedWaits', WHERE WHAT IT READS IS OF BULK AT MOST 1048576: true; the input reads as it did. -/
def fnFinedWaitsUptoRow : OpenClaim := { program := "ytkdelfadmnpkhaa", sum := "f9cab9034a3e45ebbc83f1fe30176f21f14dfe09b00345e4326e8c231c524ddf", func := "loop.example/g00614/laws.FnFinedWaits", spec := "fnFinedWaits", unfollowed := true, recurses := true, apart := false, narrowed := true }
def FnFinedWaitsUptoSaid : Prop := fnFinedWaitsUptoRow.holds Try.pinned (OpenSpec.upto fnFinedWaitsSpec)

/-- 'laws.FnExactWaitsOk', WHERE WHAT IT READS IS OF BULK AT MOST 1048576: true; the input reads as it did. -/
def fnExactWaitsOkUptoRow : OpenClaim := { program := "ytkdelfadmnpkhaa", sum := "f9cab9034a3e45ebbc83f1fe30176f21f14dfe09b00345e4326e8c231c524ddf", func := "loop.example/g00614/laws.FnExactWaitsOk", spec := "fnExactWaitsOk", unfollowed := true, recurses := true, apart := false, narrowed := true }
def FnExactWaitsOkUptoSaid : Prop := fnExactWaitsOkUptoRow.holds Try.pinned (OpenSpec.upto fnExactWaitsOkSpec)

/-- 'laws.FnExactWaiting', WHERE WHAT IT READS IS OF BULK AT MOST 1048576: true; the input reads as it did. -/
def fnExactWaitingUptoRow : OpenClaim := { program := "ytkdelfadmnpkhaa", sum := "f9cab9034a3e45ebbc83f1fe30176f21f14dfe09b00345e4326e8c231c524ddf", func := "loop.example/g00614/laws.FnExactWaiting", spec := "fnExactWaiting", unfollowed := true, recurses := true, apart := false, narrowed := true }
def FnExactWaitingUptoSaid : Prop := fnExactWaitingUptoRow.holds Try.pinned (OpenSpec.upto fnExactWaitingSpec)

/-- 'laws.FnExactRipeAt', WHERE WHAT IT READS IS OF BULK AT MOST 1048576: true; the input reads as it did. -/
def fnExactRipeAtUptoRow : OpenClaim := { program := "ytkdelfadmnpkhaa", sum := "f9cab9034a3e45ebbc83f1fe30176f21f14dfe09b00345e4326e8c231c524ddf", func := "loop.example/g00614/laws.FnExactRipeAt", spec := "fnExactRipeAt", unfollowed := true, recurses := true, apart := false, narrowed := true }
def FnExactRipeAtUptoSaid : Prop := fnExactRipeAtUptoRow.holds Try.pinned (OpenSpec.upto fnExactRipeAtSpec)

/-- 'laws.FnExactFined', WHERE WHAT IT READS IS OF BULK AT MOST 1048576: true; the input reads as it did. -/
def fnExactFinedUptoRow : OpenClaim := { program := "ytkdelfadmnpkhaa", sum := "f9cab9034a3e45ebbc83f1fe30176f21f14dfe09b00345e4326e8c231c524ddf", func := "loop.example/g00614/laws.FnExactFined", spec := "fnExactFined", unfollowed := true, recurses := true, apart := false, narrowed := true }
def FnExactFinedUptoSaid : Prop := fnExactFinedUptoRow.holds Try.pinned (OpenSpec.upto fnExactFinedSpec)

/-- 'laws.FnExactWaitsFor', WHERE WHAT IT READS IS OF BULK AT MOST 1048576: true; the input reads as it did. -/
def fnExactWaitsForUptoRow : OpenClaim := { program := "ytkdelfadmnpkhaa", sum := "f9cab9034a3e45ebbc83f1fe30176f21f14dfe09b00345e4326e8c231c524ddf", func := "loop.example/g00614/laws.FnExactWaitsFor", spec := "fnExactWaitsFor", unfollowed := true, recurses := true, apart := false, narrowed := true }
def FnExactWaitsForUptoSaid : Prop := fnExactWaitsForUptoRow.holds Try.pinned (OpenSpec.upto fnExactWaitsForSpec)

/-- 'laws.FnExactAmountIn', WHERE WHAT IT READS IS OF BULK AT MOST 1048576: true; the input reads as it did. -/
def fnExactAmountInUptoRow : OpenClaim := { program := "ytkdelfadmnpkhaa", sum := "f9cab9034a3e45ebbc83f1fe30176f21f14dfe09b00345e4326e8c231c524ddf", func := "loop.example/g00614/laws.FnExactAmountIn", spec := "fnExactAmountIn", unfollowed := true, recurses := true, apart := false, narrowed := true }
def FnExactAmountInUptoSaid : Prop := fnExactAmountInUptoRow.holds Try.pinned (OpenSpec.upto fnExactAmountInSpec)

end Rows
end Go.Proofs.Ytkdelfadmnpkhaa
