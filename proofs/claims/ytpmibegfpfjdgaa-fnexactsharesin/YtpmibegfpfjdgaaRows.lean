/-
  No cell of these rows narrows 'for every input' (looked for: loops, veiled, ifaces, maps, wideKeys, modest, calm, conditions, laid).
  DERIVED. THE GIVEN ROWS OF THIS SEAT. 7 by the template 'for every input the law returns true; each argument reads behind the call as it read before'; 0 by the template 'total and deterministic' (their statements: YtpmibegfpfjdgaaTotals.lean).
  GIVEN WITH THE SEED: the statements are not yours to turn. If you find one false, say at which input.
  Laid BY PROGRAM, IN A SANDBOX (cutbox-rows.mjs): the forced cells as the released guide's own fill.sh prints them over the translation eff67532540bd12e… (all of the seat's roots in one cut). By AI agents, Wed Nov 11 2026. No macro, syntax, notation, axiom, sorry.
-/
import Derived.Test.YtpmibegfpfjdgaaChecked
import GoSem.Claim
import GoSem.ClaimJoined
import GoSem.ClaimMapViews
import Derived.JoinedTies
import Derived.KernelRfl
namespace Go.Proofs.Ytpmibegfpfjdgaa
/- THE CELL 'sum', in the pinned program and in every row, IS THE sha256 OF THE DUMP (.gsa) THAT YtpmibegfpfjdgaaProg.lean LOADS. Nothing in Lean hashes anything: it is a label: what it is worth is what the hold of that sum in a sandbox is worth. -/
noncomputable def Try.pinned : Pinned := { name := "ytpmibegfpfjdgaa", sum := "eff67532540bd12e4fc68be90acfd5dd90bf0372df737864259c5e3ea06c4392", checked := Try.checked }
namespace Rows
def none {H : Type} : Left H := { results := [], args := [] }

/-- 'laws.FnParts': WHATEVER THE INPUT: true; the input reads as it did. -/
def fnPartsSpec : ChangeSpec := { name := "fnParts", fn := fun _ => fun
  | [d] => { results := [.lit (.bool true)], args := [d] }
  | _ => none }
def fnPartsRow : OpenClaim := { program := "ytpmibegfpfjdgaa", sum := "eff67532540bd12e4fc68be90acfd5dd90bf0372df737864259c5e3ea06c4392", func := "loop.example/g00614/laws.FnParts", spec := "fnParts", unfollowed := true, recurses := true, plainKeys := false, apart := false }
def FnPartsSaid : Prop := fnPartsRow.holds Try.pinned (OpenSpec.ofChange fnPartsSpec)

/-- ITS FALSE NEIGHBOUR: 'it returns false'. Refute it at one input. -/
def fnPartsWrong : ChangeSpec := { name := "fnParts", fn := fun _ => fun
  | [d] => { results := [.lit (.bool false)], args := [d] }
  | _ => none }
def FnPartsWrongFalsely : Prop := fnPartsRow.holds Try.pinned (OpenSpec.ofChange fnPartsWrong)

/-- 'laws.FnExactPartsOk': WHATEVER THE INPUT: true; the input reads as it did. -/
def fnExactPartsOkSpec : ChangeSpec := { name := "fnExactPartsOk", fn := fun _ => fun
  | [d] => { results := [.lit (.bool true)], args := [d] }
  | _ => none }
def fnExactPartsOkRow : OpenClaim := { program := "ytpmibegfpfjdgaa", sum := "eff67532540bd12e4fc68be90acfd5dd90bf0372df737864259c5e3ea06c4392", func := "loop.example/g00614/laws.FnExactPartsOk", spec := "fnExactPartsOk", unfollowed := true, recurses := true, plainKeys := false, apart := false }
def FnExactPartsOkSaid : Prop := fnExactPartsOkRow.holds Try.pinned (OpenSpec.ofChange fnExactPartsOkSpec)

/-- ITS FALSE NEIGHBOUR: 'it returns false'. Refute it at one input. -/
def fnExactPartsOkWrong : ChangeSpec := { name := "fnExactPartsOk", fn := fun _ => fun
  | [d] => { results := [.lit (.bool false)], args := [d] }
  | _ => none }
def FnExactPartsOkWrongFalsely : Prop := fnExactPartsOkRow.holds Try.pinned (OpenSpec.ofChange fnExactPartsOkWrong)

/-- 'laws.FnExactSharesOf': WHATEVER THE INPUT: true; the input reads as it did. -/
def fnExactSharesOfSpec : ChangeSpec := { name := "fnExactSharesOf", fn := fun _ => fun
  | [d1, d2, d3] => { results := [.lit (.bool true)], args := [d1, d2, d3] }
  | _ => none }
def fnExactSharesOfRow : OpenClaim := { program := "ytpmibegfpfjdgaa", sum := "eff67532540bd12e4fc68be90acfd5dd90bf0372df737864259c5e3ea06c4392", func := "loop.example/g00614/laws.FnExactSharesOf", spec := "fnExactSharesOf", unfollowed := true, recurses := true, plainKeys := false, apart := false }
def FnExactSharesOfSaid : Prop := fnExactSharesOfRow.holds Try.pinned (OpenSpec.ofChange fnExactSharesOfSpec)

/-- ITS FALSE NEIGHBOUR: 'it returns false'. Refute it at one input. -/
def fnExactSharesOfWrong : ChangeSpec := { name := "fnExactSharesOf", fn := fun _ => fun
  | [d1, d2, d3] => { results := [.lit (.bool false)], args := [d1, d2, d3] }
  | _ => none }
def FnExactSharesOfWrongFalsely : Prop := fnExactSharesOfRow.holds Try.pinned (OpenSpec.ofChange fnExactSharesOfWrong)

/-- 'laws.FnExactGave': WHATEVER THE INPUT: true; the input reads as it did. -/
def fnExactGaveSpec : ChangeSpec := { name := "fnExactGave", fn := fun _ => fun
  | [d1, d2, d3, d4] => { results := [.lit (.bool true)], args := [d1, d2, d3, d4] }
  | _ => none }
def fnExactGaveRow : OpenClaim := { program := "ytpmibegfpfjdgaa", sum := "eff67532540bd12e4fc68be90acfd5dd90bf0372df737864259c5e3ea06c4392", func := "loop.example/g00614/laws.FnExactGave", spec := "fnExactGave", unfollowed := true, recurses := true, plainKeys := false, apart := false }
def FnExactGaveSaid : Prop := fnExactGaveRow.holds Try.pinned (OpenSpec.ofChange fnExactGaveSpec)

/-- ITS FALSE NEIGHBOUR: 'it returns false'. Refute it at one input. -/
def fnExactGaveWrong : ChangeSpec := { name := "fnExactGave", fn := fun _ => fun
  | [d1, d2, d3, d4] => { results := [.lit (.bool false)], args := [d1, d2, d3, d4] }
  | _ => none }
def FnExactGaveWrongFalsely : Prop := fnExactGaveRow.holds Try.pinned (OpenSpec.ofChange fnExactGaveWrong)

/-- 'laws.FnExactTook': WHATEVER THE INPUT: true; the input reads as it did. -/
def fnExactTookSpec : ChangeSpec := { name := "fnExactTook", fn := fun _ => fun
  | [d1, d2, d3, d4] => { results := [.lit (.bool true)], args := [d1, d2, d3, d4] }
  | _ => none }
def fnExactTookRow : OpenClaim := { program := "ytpmibegfpfjdgaa", sum := "eff67532540bd12e4fc68be90acfd5dd90bf0372df737864259c5e3ea06c4392", func := "loop.example/g00614/laws.FnExactTook", spec := "fnExactTook", unfollowed := true, recurses := true, plainKeys := false, apart := false }
def FnExactTookSaid : Prop := fnExactTookRow.holds Try.pinned (OpenSpec.ofChange fnExactTookSpec)

/-- ITS FALSE NEIGHBOUR: 'it returns false'. Refute it at one input. -/
def fnExactTookWrong : ChangeSpec := { name := "fnExactTook", fn := fun _ => fun
  | [d1, d2, d3, d4] => { results := [.lit (.bool false)], args := [d1, d2, d3, d4] }
  | _ => none }
def FnExactTookWrongFalsely : Prop := fnExactTookRow.holds Try.pinned (OpenSpec.ofChange fnExactTookWrong)

/-- 'laws.FnExactPartsFor': WHATEVER THE INPUT: true; the input reads as it did. -/
def fnExactPartsForSpec : ChangeSpec := { name := "fnExactPartsFor", fn := fun _ => fun
  | [d1, d2] => { results := [.lit (.bool true)], args := [d1, d2] }
  | _ => none }
def fnExactPartsForRow : OpenClaim := { program := "ytpmibegfpfjdgaa", sum := "eff67532540bd12e4fc68be90acfd5dd90bf0372df737864259c5e3ea06c4392", func := "loop.example/g00614/laws.FnExactPartsFor", spec := "fnExactPartsFor", unfollowed := true, recurses := true, plainKeys := false, apart := false }
def FnExactPartsForSaid : Prop := fnExactPartsForRow.holds Try.pinned (OpenSpec.ofChange fnExactPartsForSpec)

/-- ITS FALSE NEIGHBOUR: 'it returns false'. Refute it at one input. -/
def fnExactPartsForWrong : ChangeSpec := { name := "fnExactPartsFor", fn := fun _ => fun
  | [d1, d2] => { results := [.lit (.bool false)], args := [d1, d2] }
  | _ => none }
def FnExactPartsForWrongFalsely : Prop := fnExactPartsForRow.holds Try.pinned (OpenSpec.ofChange fnExactPartsForWrong)

/-- 'laws.FnExactSharesIn': WHATEVER THE INPUT: true; the input reads as it did. -/
def fnExactSharesInSpec : ChangeSpec := { name := "fnExactSharesIn", fn := fun _ => fun
  | [d1, d2] => { results := [.lit (.bool true)], args := [d1, d2] }
  | _ => none }
def fnExactSharesInRow : OpenClaim := { program := "ytpmibegfpfjdgaa", sum := "eff67532540bd12e4fc68be90acfd5dd90bf0372df737864259c5e3ea06c4392", func := "loop.example/g00614/laws.FnExactSharesIn", spec := "fnExactSharesIn", unfollowed := true, recurses := true, plainKeys := false, apart := false }
def FnExactSharesInSaid : Prop := fnExactSharesInRow.holds Try.pinned (OpenSpec.ofChange fnExactSharesInSpec)

/-- ITS FALSE NEIGHBOUR: 'it returns false'. Refute it at one input. -/
def fnExactSharesInWrong : ChangeSpec := { name := "fnExactSharesIn", fn := fun _ => fun
  | [d1, d2] => { results := [.lit (.bool false)], args := [d1, d2] }
  | _ => none }
def FnExactSharesInWrongFalsely : Prop := fnExactSharesInRow.holds Try.pinned (OpenSpec.ofChange fnExactSharesInWrong)

/- THE SECOND FORM. 'bulk': how many values and letters a reading holds, each counted each time it is reached (what is shared counts as often as it is met; a slice's spare places count too). A statement '..UptoSaid' is the law's where the arguments, and the package variables that the reading takes, are together of bulk at most 1048576: NARROWER than '..Said'. Prove '..Said' where nothing that the law and all that it calls make is longer than what came in: it says more and counts as full. Else prove '..UptoSaid'. A law counts once. -/
mutual
def uptoBulk {H : Type} : DataW H → Nat
  | .lit (.string bytes) => bytes.length + 1
  | .lit _ => 1
  | .nil => 1
  | .ptr d => uptoBulk d + 1
  | .slice elems spare => uptoBulkAll elems + uptoBulkAll spare + 1
  | .agg parts => uptoBulkAll parts + 1
  | .iface _ d => uptoBulk d + 1
  | .map entries => uptoBulkEntries entries + 1
  | .held _ => 1
def uptoBulkAll {H : Type} : List (DataW H) → Nat
  | [] => 0
  | d :: r => uptoBulk d + uptoBulkAll r
def uptoBulkEntries {H : Type} : List (Lit × DataW H) → Nat
  | [] => 0
  | x :: r => uptoBulkEntry x + uptoBulkEntries r
def uptoBulkEntry {H : Type} : Lit × DataW H → Nat
  | (.string bytes, d) => bytes.length + uptoBulk d + 1
  | (_, d) => uptoBulk d + 1
 end
def uptoSmall : (H : Type) → List (DataW H) → Bool := fun _ ds => decide (uptoBulkAll ds ≤ 1048576)
def OpenSpec.upto (s : _root_.Go.ChangeSpec) : _root_.Go.OpenSpec := { _root_.Go.OpenSpec.ofChange s with cond := some uptoSmall }

/-- 'laws.FnParts', WHERE WHAT IT READS IS OF BULK AT MOST 1048576: true; the input reads as it did. -/
def fnPartsUptoRow : OpenClaim := { program := "ytpmibegfpfjdgaa", sum := "eff67532540bd12e4fc68be90acfd5dd90bf0372df737864259c5e3ea06c4392", func := "loop.example/g00614/laws.FnParts", spec := "fnParts", unfollowed := true, recurses := true, plainKeys := false, apart := false, narrowed := true }
def FnPartsUptoSaid : Prop := fnPartsUptoRow.holds Try.pinned (OpenSpec.upto fnPartsSpec)

/-- 'laws.FnExactPartsOk', WHERE WHAT IT READS IS OF BULK AT MOST 1048576: true; the input reads as it did. -/
def fnExactPartsOkUptoRow : OpenClaim := { program := "ytpmibegfpfjdgaa", sum := "eff67532540bd12e4fc68be90acfd5dd90bf0372df737864259c5e3ea06c4392", func := "loop.example/g00614/laws.FnExactPartsOk", spec := "fnExactPartsOk", unfollowed := true, recurses := true, plainKeys := false, apart := false, narrowed := true }
def FnExactPartsOkUptoSaid : Prop := fnExactPartsOkUptoRow.holds Try.pinned (OpenSpec.upto fnExactPartsOkSpec)

/-- 'laws.FnExactSharesOf', WHERE WHAT IT READS IS OF BULK AT MOST 1048576: true; the input reads as it did. -/
def fnExactSharesOfUptoRow : OpenClaim := { program := "ytpmibegfpfjdgaa", sum := "eff67532540bd12e4fc68be90acfd5dd90bf0372df737864259c5e3ea06c4392", func := "loop.example/g00614/laws.FnExactSharesOf", spec := "fnExactSharesOf", unfollowed := true, recurses := true, plainKeys := false, apart := false, narrowed := true }
def FnExactSharesOfUptoSaid : Prop := fnExactSharesOfUptoRow.holds Try.pinned (OpenSpec.upto fnExactSharesOfSpec)

/-- 'laws.FnExactGave', WHERE WHAT IT READS IS OF BULK AT MOST 1048576: true; the input reads as it did. -/
def fnExactGaveUptoRow : OpenClaim := { program := "ytpmibegfpfjdgaa", sum := "eff67532540bd12e4fc68be90acfd5dd90bf0372df737864259c5e3ea06c4392", func := "loop.example/g00614/laws.FnExactGave", spec := "fnExactGave", unfollowed := true, recurses := true, plainKeys := false, apart := false, narrowed := true }
def FnExactGaveUptoSaid : Prop := fnExactGaveUptoRow.holds Try.pinned (OpenSpec.upto fnExactGaveSpec)

/-- 'laws.FnExactTook', WHERE WHAT IT READS IS OF BULK AT MOST 1048576: true; the input reads as it did. -/
def fnExactTookUptoRow : OpenClaim := { program := "ytpmibegfpfjdgaa", sum := "eff67532540bd12e4fc68be90acfd5dd90bf0372df737864259c5e3ea06c4392", func := "loop.example/g00614/laws.FnExactTook", spec := "fnExactTook", unfollowed := true, recurses := true, plainKeys := false, apart := false, narrowed := true }
def FnExactTookUptoSaid : Prop := fnExactTookUptoRow.holds Try.pinned (OpenSpec.upto fnExactTookSpec)

/-- 'laws.FnExactPartsFor', WHERE WHAT IT READS IS OF BULK AT MOST 1048576: true; the input reads as it did. -/
def fnExactPartsForUptoRow : OpenClaim := { program := "ytpmibegfpfjdgaa", sum := "eff67532540bd12e4fc68be90acfd5dd90bf0372df737864259c5e3ea06c4392", func := "loop.example/g00614/laws.FnExactPartsFor", spec := "fnExactPartsFor", unfollowed := true, recurses := true, plainKeys := false, apart := false, narrowed := true }
def FnExactPartsForUptoSaid : Prop := fnExactPartsForUptoRow.holds Try.pinned (OpenSpec.upto fnExactPartsForSpec)

/-- 'laws.FnExactSharesIn', WHERE WHAT IT READS IS OF BULK AT MOST 1048576: true; the input reads as it did. -/
def fnExactSharesInUptoRow : OpenClaim := { program := "ytpmibegfpfjdgaa", sum := "eff67532540bd12e4fc68be90acfd5dd90bf0372df737864259c5e3ea06c4392", func := "loop.example/g00614/laws.FnExactSharesIn", spec := "fnExactSharesIn", unfollowed := true, recurses := true, plainKeys := false, apart := false, narrowed := true }
def FnExactSharesInUptoSaid : Prop := fnExactSharesInUptoRow.holds Try.pinned (OpenSpec.upto fnExactSharesInSpec)

end Rows
end Go.Proofs.Ytpmibegfpfjdgaa
