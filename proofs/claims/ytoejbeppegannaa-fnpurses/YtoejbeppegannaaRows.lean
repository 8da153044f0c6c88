/-
  No cell of these rows narrows 'for every input' (looked for: loops, veiled, ifaces, maps, wideKeys, modest, calm, conditions, laid).
  DERIVED. THE GIVEN ROWS OF THIS SEAT. 6 by the template 'for every input the law returns true; each argument reads behind the call as it read before'; 0 by the template 'total and deterministic' (their statements: YtoejbeppegannaaTotals.lean).
  GIVEN WITH THE SEED: the statements are not yours to turn. If you find one false, say at which input.
  Laid BY PROGRAM, IN A SANDBOX (cutbox-rows.mjs): the forced cells as the released guide's own fill.sh prints them over the translation c2c4f2d1b6ef5c2e… (all of the seat's roots in one cut). By AI agents, Wed Nov 11 2026. No macro, syntax, notation, axiom, sorry.
-/
import Derived.Test.YtoejbeppegannaaChecked
import GoSem.Claim
import GoSem.ClaimJoined
import GoSem.ClaimMapViews
import Derived.JoinedTies
import Derived.KernelRfl
namespace Go.Proofs.Ytoejbeppegannaa
/- THE CELL 'sum', in the pinned program and in every row, IS THE sha256 OF THE DUMP (.gsa) THAT YtoejbeppegannaaProg.lean LOADS. Nothing in Lean hashes anything: it is a label: what it is worth is what the hold of that sum in a sandbox is worth. -/
noncomputable def Try.pinned : Pinned := { name := "ytoejbeppegannaa", sum := "c2c4f2d1b6ef5c2e97881145b08e4fcd479491079c9847ff7373c498a5519ec2", checked := Try.checked }
namespace Rows
def none {H : Type} : Left H := { results := [], args := [] }

/-- 'laws.FnPurses': WHATEVER THE INPUT: true; the input reads as it did. -/
def fnPursesSpec : ChangeSpec := { name := "fnPurses", fn := fun _ => fun
  | [d] => { results := [.lit (.bool true)], args := [d] }
  | _ => none }
def fnPursesRow : OpenClaim := { program := "ytoejbeppegannaa", sum := "c2c4f2d1b6ef5c2e97881145b08e4fcd479491079c9847ff7373c498a5519ec2", func := "loop.example/g00614/laws.FnPurses", spec := "fnPurses", unfollowed := true, recurses := true, apart := false }
def FnPursesSaid : Prop := fnPursesRow.holds Try.pinned (OpenSpec.ofChange fnPursesSpec)

/-- ITS FALSE NEIGHBOUR: 'it returns false'. Refute it at one input. -/
def fnPursesWrong : ChangeSpec := { name := "fnPurses", fn := fun _ => fun
  | [d] => { results := [.lit (.bool false)], args := [d] }
  | _ => none }
def FnPursesWrongFalsely : Prop := fnPursesRow.holds Try.pinned (OpenSpec.ofChange fnPursesWrong)

/-- 'laws.FnExactFolkOk': WHATEVER THE INPUT: true; the input reads as it did. -/
def fnExactFolkOkSpec : ChangeSpec := { name := "fnExactFolkOk", fn := fun _ => fun
  | [d] => { results := [.lit (.bool true)], args := [d] }
  | _ => none }
def fnExactFolkOkRow : OpenClaim := { program := "ytoejbeppegannaa", sum := "c2c4f2d1b6ef5c2e97881145b08e4fcd479491079c9847ff7373c498a5519ec2", func := "loop.example/g00614/laws.FnExactFolkOk", spec := "fnExactFolkOk", unfollowed := true, recurses := true, apart := false }
def FnExactFolkOkSaid : Prop := fnExactFolkOkRow.holds Try.pinned (OpenSpec.ofChange fnExactFolkOkSpec)

/-- ITS FALSE NEIGHBOUR: 'it returns false'. Refute it at one input. -/
def fnExactFolkOkWrong : ChangeSpec := { name := "fnExactFolkOk", fn := fun _ => fun
  | [d] => { results := [.lit (.bool false)], args := [d] }
  | _ => none }
def FnExactFolkOkWrongFalsely : Prop := fnExactFolkOkRow.holds Try.pinned (OpenSpec.ofChange fnExactFolkOkWrong)

/-- 'laws.FnExactFreeOf': WHATEVER THE INPUT: true; the input reads as it did. -/
def fnExactFreeOfSpec : ChangeSpec := { name := "fnExactFreeOf", fn := fun _ => fun
  | [d1, d2] => { results := [.lit (.bool true)], args := [d1, d2] }
  | _ => none }
def fnExactFreeOfRow : OpenClaim := { program := "ytoejbeppegannaa", sum := "c2c4f2d1b6ef5c2e97881145b08e4fcd479491079c9847ff7373c498a5519ec2", func := "loop.example/g00614/laws.FnExactFreeOf", spec := "fnExactFreeOf", unfollowed := true, recurses := true, apart := false }
def FnExactFreeOfSaid : Prop := fnExactFreeOfRow.holds Try.pinned (OpenSpec.ofChange fnExactFreeOfSpec)

/-- ITS FALSE NEIGHBOUR: 'it returns false'. Refute it at one input. -/
def fnExactFreeOfWrong : ChangeSpec := { name := "fnExactFreeOf", fn := fun _ => fun
  | [d1, d2] => { results := [.lit (.bool false)], args := [d1, d2] }
  | _ => none }
def FnExactFreeOfWrongFalsely : Prop := fnExactFreeOfRow.holds Try.pinned (OpenSpec.ofChange fnExactFreeOfWrong)

/-- 'laws.FnExactPaid': WHATEVER THE INPUT: true; the input reads as it did. -/
def fnExactPaidSpec : ChangeSpec := { name := "fnExactPaid", fn := fun _ => fun
  | [d1, d2, d3] => { results := [.lit (.bool true)], args := [d1, d2, d3] }
  | _ => none }
def fnExactPaidRow : OpenClaim := { program := "ytoejbeppegannaa", sum := "c2c4f2d1b6ef5c2e97881145b08e4fcd479491079c9847ff7373c498a5519ec2", func := "loop.example/g00614/laws.FnExactPaid", spec := "fnExactPaid", unfollowed := true, recurses := true, apart := false }
def FnExactPaidSaid : Prop := fnExactPaidRow.holds Try.pinned (OpenSpec.ofChange fnExactPaidSpec)

/-- ITS FALSE NEIGHBOUR: 'it returns false'. Refute it at one input. -/
def fnExactPaidWrong : ChangeSpec := { name := "fnExactPaid", fn := fun _ => fun
  | [d1, d2, d3] => { results := [.lit (.bool false)], args := [d1, d2, d3] }
  | _ => none }
def FnExactPaidWrongFalsely : Prop := fnExactPaidRow.holds Try.pinned (OpenSpec.ofChange fnExactPaidWrong)

/-- 'laws.FnExactSpent': WHATEVER THE INPUT: true; the input reads as it did. -/
def fnExactSpentSpec : ChangeSpec := { name := "fnExactSpent", fn := fun _ => fun
  | [d1, d2, d3] => { results := [.lit (.bool true)], args := [d1, d2, d3] }
  | _ => none }
def fnExactSpentRow : OpenClaim := { program := "ytoejbeppegannaa", sum := "c2c4f2d1b6ef5c2e97881145b08e4fcd479491079c9847ff7373c498a5519ec2", func := "loop.example/g00614/laws.FnExactSpent", spec := "fnExactSpent", unfollowed := true, recurses := true, apart := false }
def FnExactSpentSaid : Prop := fnExactSpentRow.holds Try.pinned (OpenSpec.ofChange fnExactSpentSpec)

/-- ITS FALSE NEIGHBOUR: 'it returns false'. Refute it at one input. -/
def fnExactSpentWrong : ChangeSpec := { name := "fnExactSpent", fn := fun _ => fun
  | [d1, d2, d3] => { results := [.lit (.bool false)], args := [d1, d2, d3] }
  | _ => none }
def FnExactSpentWrongFalsely : Prop := fnExactSpentRow.holds Try.pinned (OpenSpec.ofChange fnExactSpentWrong)

/-- 'laws.FnExactFreeIn': WHATEVER THE INPUT: true; the input reads as it did. -/
def fnExactFreeInSpec : ChangeSpec := { name := "fnExactFreeIn", fn := fun _ => fun
  | [d] => { results := [.lit (.bool true)], args := [d] }
  | _ => none }
def fnExactFreeInRow : OpenClaim := { program := "ytoejbeppegannaa", sum := "c2c4f2d1b6ef5c2e97881145b08e4fcd479491079c9847ff7373c498a5519ec2", func := "loop.example/g00614/laws.FnExactFreeIn", spec := "fnExactFreeIn", unfollowed := true, recurses := true, apart := false }
def FnExactFreeInSaid : Prop := fnExactFreeInRow.holds Try.pinned (OpenSpec.ofChange fnExactFreeInSpec)

/-- ITS FALSE NEIGHBOUR: 'it returns false'. Refute it at one input. -/
def fnExactFreeInWrong : ChangeSpec := { name := "fnExactFreeIn", fn := fun _ => fun
  | [d] => { results := [.lit (.bool false)], args := [d] }
  | _ => none }
def FnExactFreeInWrongFalsely : Prop := fnExactFreeInRow.holds Try.pinned (OpenSpec.ofChange fnExactFreeInWrong)

/- THE SECOND FORM. 'bulk': how many values and letters a reading holds, each counted each time it is reached (what is shared counts as often as it is met; a slice's spare places count too). A statement '..UptoSaid' is the law's where the arguments, and the package variables that the reading takes, are together of bulk at most 1048576: NARROWER than '..Said'. Prove '..Said' where nothing that the law and all that it calls make is longer than what came in: it says more and counts as full. Else prove '..UptoSaid'. A law counts once. -/
mutual
def uptoBulk {H : Type} : DataW H → Nat
  | .lit (.string bytes) => bytes.length + 1
  | .lit _ => 1
  | .nil => 1
  | .ptr d => uptoBulk d + 1
  | .slice elems spare => uptoBulkAll elems + uptoBulkAll spare + 1
  | .agg parts => uptoBulkAll parts + 1
  | .iface _ d => uptoBulk d + 1
  | .map entries => uptoBulkEntries entries + 1
  | .held _ => 1
def uptoBulkAll {H : Type} : List (DataW H) → Nat
  | [] => 0
  | d :: r => uptoBulk d + uptoBulkAll r
def uptoBulkEntries {H : Type} : List (Lit × DataW H) → Nat
  | [] => 0
  | x :: r => uptoBulkEntry x + uptoBulkEntries r
def uptoBulkEntry {H : Type} : Lit × DataW H → Nat
  | (.string bytes, d) => bytes.length + uptoBulk d + 1
  | (_, d) => uptoBulk d + 1
 end
def uptoSmall : (H : Type) → List (DataW H) → Bool := fun _ ds => decide (uptoBulkAll ds ≤ 1048576)
def OpenSpec.upto (s : _root_.Go.ChangeSpec) : _root_.Go.OpenSpec := { _root_.Go.OpenSpec.ofChange s with cond := some uptoSmall }

/-- 'laws.FnPurses', WHERE WHAT IT READS IS OF BULK AT MOST 1048576: true; the input reads as it did. -/
def fnPursesUptoRow : OpenClaim := { program := "ytoejbeppegannaa", sum := "c2c4f2d1b6ef5c2e97881145b08e4fcd479491079c9847ff7373c498a5519ec2", func := "loop.example/g00614/laws.FnPurses", spec := "fnPurses", unfollowed := true, recurses := true, apart := false, narrowed := true }
def FnPursesUptoSaid : Prop := fnPursesUptoRow.holds Try.pinned (OpenSpec.upto fnPursesSpec)

/-- 'laws.FnExactFolkOk', WHERE WHAT IT READS IS OF BULK AT MOST 1048576: true; the input reads as it did. -/
def fnExactFolkOkUptoRow : OpenClaim := { program := "ytoejbeppegannaa", sum := "c2c4f2d1b6ef5c2e97881145b08e4fcd479491079c9847ff7373c498a5519ec2", func := "loop.example/g00614/laws.FnExactFolkOk", spec := "fnExactFolkOk", unfollowed := true, recurses := true, apart := false, narrowed := true }
def FnExactFolkOkUptoSaid : Prop := fnExactFolkOkUptoRow.holds Try.pinned (OpenSpec.upto fnExactFolkOkSpec)

/-- 'laws.FnExactFreeOf', WHERE WHAT IT READS IS OF BULK AT MOST 1048576: true; the input reads as it did. -/
def fnExactFreeOfUptoRow : OpenClaim := { program := "ytoejbeppegannaa", sum := "c2c4f2d1b6ef5c2e97881145b08e4fcd479491079c9847ff7373c498a5519ec2", func := "loop.example/g00614/laws.FnExactFreeOf", spec := "fnExactFreeOf", unfollowed := true, recurses := true, apart := false, narrowed := true }
def FnExactFreeOfUptoSaid : Prop := fnExactFreeOfUptoRow.holds Try.pinned (OpenSpec.upto fnExactFreeOfSpec)

/-- 'laws.FnExactPaid', WHERE WHAT IT READS IS OF BULK AT MOST 1048576: true; the input reads as it did. -/
def fnExactPaidUptoRow : OpenClaim := { program := "ytoejbeppegannaa", sum := "c2c4f2d1b6ef5c2e97881145b08e4fcd479491079c9847ff7373c498a5519ec2", func := "loop.example/g00614/laws.FnExactPaid", spec := "fnExactPaid", unfollowed := true, recurses := true, apart := false, narrowed := true }
def FnExactPaidUptoSaid : Prop := fnExactPaidUptoRow.holds Try.pinned (OpenSpec.upto fnExactPaidSpec)

/-- 'laws.FnExactSpent', WHERE WHAT IT READS IS OF BULK AT MOST 1048576: true; the input reads as it did. -/
def fnExactSpentUptoRow : OpenClaim := { program := "ytoejbeppegannaa", sum := "c2c4f2d1b6ef5c2e97881145b08e4fcd479491079c9847ff7373c498a5519ec2", func := "loop.example/g00614/laws.FnExactSpent", spec := "fnExactSpent", unfollowed := true, recurses := true, apart := false, narrowed := true }
def FnExactSpentUptoSaid : Prop := fnExactSpentUptoRow.holds Try.pinned (OpenSpec.upto fnExactSpentSpec)

/-- 'laws.FnExactFreeIn', WHERE WHAT IT READS IS OF BULK AT MOST 1048576: true; the input reads as it did. -/
def fnExactFreeInUptoRow : OpenClaim := { program := "ytoejbeppegannaa", sum := "c2c4f2d1b6ef5c2e97881145b08e4fcd479491079c9847ff7373c498a5519ec2", func := "loop.example/g00614/laws.FnExactFreeIn", spec := "fnExactFreeIn", unfollowed := true, recurses := true, apart := false, narrowed := true }
def FnExactFreeInUptoSaid : Prop := fnExactFreeInUptoRow.holds Try.pinned (OpenSpec.upto fnExactFreeInSpec)

end Rows
end Go.Proofs.Ytoejbeppegannaa
