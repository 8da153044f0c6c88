/-
  No cell of these rows narrows 'for every input' (looked for: loops, veiled, ifaces, maps, wideKeys, modest, calm, conditions, laid).
  DERIVED. THE GIVEN ROWS OF THIS SEAT. 9 by the template 'for every input the law returns true; each argument reads behind the call as it read before'; 0 by the template 'total and deterministic' (their statements: YtdpiepddafpceaaTotals.lean).
  GIVEN WITH THE SEED: the statements are not yours to turn. If you find one false, say at which input.
  Laid BY PROGRAM, IN A SANDBOX (cutbox-rows.mjs): the forced cells as the released guide's own fill.sh prints them over the translation ddd3eb0f9cff1ca1… (all of the seat's roots in one cut). By AI agents, Wed Nov 11 2026. No macro, syntax, notation, axiom, sorry.
-/
import Derived.Test.YtdpiepddafpceaaChecked
import GoSem.Claim
import GoSem.ClaimJoined
import GoSem.ClaimMapViews
import Derived.JoinedTies
import Derived.KernelRfl
namespace Go.Proofs.Ytdpiepddafpceaa
/- THE CELL 'sum', in the pinned program and in every row, IS THE sha256 OF THE DUMP (.gsa) THAT YtdpiepddafpceaaProg.lean LOADS. Nothing in Lean hashes anything: it is a label: what it is worth is what the hold of that sum in a sandbox is worth. -/
noncomputable def Try.pinned : Pinned := { name := "ytdpiepddafpceaa", sum := "ddd3eb0f9cff1ca1349778bd4fa17d86a057d695609f9ad9ec9129b5bf1d6768", checked := Try.checked }
namespace Rows
def none {H : Type} : Left H := { results := [], args := [] }

/-- 'laws.FnShares': WHATEVER THE INPUT: true; the input reads as it did. -/
def fnSharesSpec : ChangeSpec := { name := "fnShares", fn := fun _ => fun
  | [d] => { results := [.lit (.bool true)], args := [d] }
  | _ => none }
def fnSharesRow : OpenClaim := { program := "ytdpiepddafpceaa", sum := "ddd3eb0f9cff1ca1349778bd4fa17d86a057d695609f9ad9ec9129b5bf1d6768", func := "loop.example/g00614/laws.FnShares", spec := "fnShares", unfollowed := true, recurses := true, apart := false }
def FnSharesSaid : Prop := fnSharesRow.holds Try.pinned (OpenSpec.ofChange fnSharesSpec)

/-- ITS FALSE NEIGHBOUR: 'it returns false'. Refute it at one input. -/
def fnSharesWrong : ChangeSpec := { name := "fnShares", fn := fun _ => fun
  | [d] => { results := [.lit (.bool false)], args := [d] }
  | _ => none }
def FnSharesWrongFalsely : Prop := fnSharesRow.holds Try.pinned (OpenSpec.ofChange fnSharesWrong)

/-- 'laws.FnWorth': WHATEVER THE INPUT: true; the input reads as it did. -/
def fnWorthSpec : ChangeSpec := { name := "fnWorth", fn := fun _ => fun
  | [d] => { results := [.lit (.bool true)], args := [d] }
  | _ => none }
def fnWorthRow : OpenClaim := { program := "ytdpiepddafpceaa", sum := "ddd3eb0f9cff1ca1349778bd4fa17d86a057d695609f9ad9ec9129b5bf1d6768", func := "loop.example/g00614/laws.FnWorth", spec := "fnWorth", unfollowed := true, recurses := true, apart := false }
def FnWorthSaid : Prop := fnWorthRow.holds Try.pinned (OpenSpec.ofChange fnWorthSpec)

/-- ITS FALSE NEIGHBOUR: 'it returns false'. Refute it at one input. -/
def fnWorthWrong : ChangeSpec := { name := "fnWorth", fn := fun _ => fun
  | [d] => { results := [.lit (.bool false)], args := [d] }
  | _ => none }
def FnWorthWrongFalsely : Prop := fnWorthRow.holds Try.pinned (OpenSpec.ofChange fnWorthWrong)

/-- 'laws.FnExactMillOk': WHATEVER THE INPUT: true; the input reads as it did. -/
def fnExactMillOkSpec : ChangeSpec := { name := "fnExactMillOk", fn := fun _ => fun
  | [d] => { results := [.lit (.bool true)], args := [d] }
  | _ => none }
def fnExactMillOkRow : OpenClaim := { program := "ytdpiepddafpceaa", sum := "ddd3eb0f9cff1ca1349778bd4fa17d86a057d695609f9ad9ec9129b5bf1d6768", func := "loop.example/g00614/laws.FnExactMillOk", spec := "fnExactMillOk", apart := false }
def FnExactMillOkSaid : Prop := fnExactMillOkRow.holds Try.pinned (OpenSpec.ofChange fnExactMillOkSpec)

/-- ITS FALSE NEIGHBOUR: 'it returns false'. Refute it at one input. -/
def fnExactMillOkWrong : ChangeSpec := { name := "fnExactMillOk", fn := fun _ => fun
  | [d] => { results := [.lit (.bool false)], args := [d] }
  | _ => none }
def FnExactMillOkWrongFalsely : Prop := fnExactMillOkRow.holds Try.pinned (OpenSpec.ofChange fnExactMillOkWrong)

/-- 'laws.FnExactMillsOk': WHATEVER THE INPUT: true; the input reads as it did. -/
def fnExactMillsOkSpec : ChangeSpec := { name := "fnExactMillsOk", fn := fun _ => fun
  | [d] => { results := [.lit (.bool true)], args := [d] }
  | _ => none }
def fnExactMillsOkRow : OpenClaim := { program := "ytdpiepddafpceaa", sum := "ddd3eb0f9cff1ca1349778bd4fa17d86a057d695609f9ad9ec9129b5bf1d6768", func := "loop.example/g00614/laws.FnExactMillsOk", spec := "fnExactMillsOk", unfollowed := true, recurses := true, apart := false }
def FnExactMillsOkSaid : Prop := fnExactMillsOkRow.holds Try.pinned (OpenSpec.ofChange fnExactMillsOkSpec)

/-- ITS FALSE NEIGHBOUR: 'it returns false'. Refute it at one input. -/
def fnExactMillsOkWrong : ChangeSpec := { name := "fnExactMillsOk", fn := fun _ => fun
  | [d] => { results := [.lit (.bool false)], args := [d] }
  | _ => none }
def FnExactMillsOkWrongFalsely : Prop := fnExactMillsOkRow.holds Try.pinned (OpenSpec.ofChange fnExactMillsOkWrong)

/-- 'laws.FnExactMillIn': WHATEVER THE INPUT: true; the input reads as it did. -/
def fnExactMillInSpec : ChangeSpec := { name := "fnExactMillIn", fn := fun _ => fun
  | [d1, d2] => { results := [.lit (.bool true)], args := [d1, d2] }
  | _ => none }
def fnExactMillInRow : OpenClaim := { program := "ytdpiepddafpceaa", sum := "ddd3eb0f9cff1ca1349778bd4fa17d86a057d695609f9ad9ec9129b5bf1d6768", func := "loop.example/g00614/laws.FnExactMillIn", spec := "fnExactMillIn", unfollowed := true, recurses := true, apart := false }
def FnExactMillInSaid : Prop := fnExactMillInRow.holds Try.pinned (OpenSpec.ofChange fnExactMillInSpec)

/-- ITS FALSE NEIGHBOUR: 'it returns false'. Refute it at one input. -/
def fnExactMillInWrong : ChangeSpec := { name := "fnExactMillIn", fn := fun _ => fun
  | [d1, d2] => { results := [.lit (.bool false)], args := [d1, d2] }
  | _ => none }
def FnExactMillInWrongFalsely : Prop := fnExactMillInRow.holds Try.pinned (OpenSpec.ofChange fnExactMillInWrong)

/-- 'laws.FnExactWorth': WHATEVER THE INPUT: true; the input reads as it did. -/
def fnExactWorthSpec : ChangeSpec := { name := "fnExactWorth", fn := fun _ => fun
  | [d1, d2] => { results := [.lit (.bool true)], args := [d1, d2] }
  | _ => none }
def fnExactWorthRow : OpenClaim := { program := "ytdpiepddafpceaa", sum := "ddd3eb0f9cff1ca1349778bd4fa17d86a057d695609f9ad9ec9129b5bf1d6768", func := "loop.example/g00614/laws.FnExactWorth", spec := "fnExactWorth", unfollowed := true, recurses := true, apart := false }
def FnExactWorthSaid : Prop := fnExactWorthRow.holds Try.pinned (OpenSpec.ofChange fnExactWorthSpec)

/-- ITS FALSE NEIGHBOUR: 'it returns false'. Refute it at one input. -/
def fnExactWorthWrong : ChangeSpec := { name := "fnExactWorth", fn := fun _ => fun
  | [d1, d2] => { results := [.lit (.bool false)], args := [d1, d2] }
  | _ => none }
def FnExactWorthWrongFalsely : Prop := fnExactWorthRow.holds Try.pinned (OpenSpec.ofChange fnExactWorthWrong)

/-- 'laws.FnExactSharesFor': WHATEVER THE INPUT: true; the input reads as it did. -/
def fnExactSharesForSpec : ChangeSpec := { name := "fnExactSharesFor", fn := fun _ => fun
  | [d1, d2] => { results := [.lit (.bool true)], args := [d1, d2] }
  | _ => none }
def fnExactSharesForRow : OpenClaim := { program := "ytdpiepddafpceaa", sum := "ddd3eb0f9cff1ca1349778bd4fa17d86a057d695609f9ad9ec9129b5bf1d6768", func := "loop.example/g00614/laws.FnExactSharesFor", spec := "fnExactSharesFor", unfollowed := true, recurses := true, apart := false }
def FnExactSharesForSaid : Prop := fnExactSharesForRow.holds Try.pinned (OpenSpec.ofChange fnExactSharesForSpec)

/-- ITS FALSE NEIGHBOUR: 'it returns false'. Refute it at one input. -/
def fnExactSharesForWrong : ChangeSpec := { name := "fnExactSharesFor", fn := fun _ => fun
  | [d1, d2] => { results := [.lit (.bool false)], args := [d1, d2] }
  | _ => none }
def FnExactSharesForWrongFalsely : Prop := fnExactSharesForRow.holds Try.pinned (OpenSpec.ofChange fnExactSharesForWrong)

/-- 'laws.FnExactStakesIn': WHATEVER THE INPUT: true; the input reads as it did. -/
def fnExactStakesInSpec : ChangeSpec := { name := "fnExactStakesIn", fn := fun _ => fun
  | [d] => { results := [.lit (.bool true)], args := [d] }
  | _ => none }
def fnExactStakesInRow : OpenClaim := { program := "ytdpiepddafpceaa", sum := "ddd3eb0f9cff1ca1349778bd4fa17d86a057d695609f9ad9ec9129b5bf1d6768", func := "loop.example/g00614/laws.FnExactStakesIn", spec := "fnExactStakesIn", unfollowed := true, recurses := true, apart := false }
def FnExactStakesInSaid : Prop := fnExactStakesInRow.holds Try.pinned (OpenSpec.ofChange fnExactStakesInSpec)

/-- ITS FALSE NEIGHBOUR: 'it returns false'. Refute it at one input. -/
def fnExactStakesInWrong : ChangeSpec := { name := "fnExactStakesIn", fn := fun _ => fun
  | [d] => { results := [.lit (.bool false)], args := [d] }
  | _ => none }
def FnExactStakesInWrongFalsely : Prop := fnExactStakesInRow.holds Try.pinned (OpenSpec.ofChange fnExactStakesInWrong)

/-- 'laws.FnExactCheaper': WHATEVER THE INPUT: true; the input reads as it did. -/
def fnExactCheaperSpec : ChangeSpec := { name := "fnExactCheaper", fn := fun _ => fun
  | [d1, d2] => { results := [.lit (.bool true)], args := [d1, d2] }
  | _ => none }
def fnExactCheaperRow : OpenClaim := { program := "ytdpiepddafpceaa", sum := "ddd3eb0f9cff1ca1349778bd4fa17d86a057d695609f9ad9ec9129b5bf1d6768", func := "loop.example/g00614/laws.FnExactCheaper", spec := "fnExactCheaper", apart := false }
def FnExactCheaperSaid : Prop := fnExactCheaperRow.holds Try.pinned (OpenSpec.ofChange fnExactCheaperSpec)

/-- ITS FALSE NEIGHBOUR: 'it returns false'. Refute it at one input. -/
def fnExactCheaperWrong : ChangeSpec := { name := "fnExactCheaper", fn := fun _ => fun
  | [d1, d2] => { results := [.lit (.bool false)], args := [d1, d2] }
  | _ => none }
def FnExactCheaperWrongFalsely : Prop := fnExactCheaperRow.holds Try.pinned (OpenSpec.ofChange fnExactCheaperWrong)

/- THE SECOND FORM. 'bulk': how many values and letters a reading holds, each counted each time it is reached (what is shared counts as often as it is met; a slice's spare places count too). A statement '..UptoSaid' is the law's where the arguments, and the package variables that the reading takes, are together of bulk at most 1048576: NARROWER than '..Said'. Prove '..Said' where nothing that the law and all that it calls make is longer than what came in: it says more and counts as full. Else prove '..UptoSaid'. A law counts once. -/
mutual
def uptoBulk {H : Type} : DataW H → Nat
  | .lit (.string bytes) => bytes.length + 1
  | .lit _ => 1
  | .nil => 1
  | .ptr d => uptoBulk d + 1
  | .slice elems spare => uptoBulkAll elems + uptoBulkAll spare + 1
  | .agg parts => uptoBulkAll parts + 1
  | .iface _ d => uptoBulk d + 1
  | .map entries => uptoBulkEntries entries + 1
  | .held _ => 1
def uptoBulkAll {H : Type} : List (DataW H) → Nat
  | [] => 0
  | d :: r => uptoBulk d + uptoBulkAll r
def uptoBulkEntries {H : Type} : List (Lit × DataW H) → Nat
  | [] => 0
  | x :: r => uptoBulkEntry x + uptoBulkEntries r
def uptoBulkEntry {H : Type} : Lit × DataW H → Nat
  | (.string bytes, d) => bytes.length + uptoBulk d + 1
  | (_, d) => uptoBulk d + 1
 end
def uptoSmall : (H : Type) → List (DataW H) → Bool := fun _ ds => decide (uptoBulkAll ds ≤ 1048576)
def OpenSpec.upto (s : _root_.Go.ChangeSpec) : _root_.Go.OpenSpec := { _root_.Go.OpenSpec.ofChange s with cond := some uptoSmall }

/-- 'laws.FnShares', WHERE WHAT IT READS IS OF BULK AT MOST 1048576: true; the input reads as it did. -/
def fnSharesUptoRow : OpenClaim := { program := "ytdpiepddafpceaa", sum := "ddd3eb0f9cff1ca1349778bd4fa17d86a057d695609f9ad9ec9129b5bf1d6768", func := "loop.example/g00614/laws.FnShares", spec := "fnShares", unfollowed := true, recurses := true, apart := false, narrowed := true }
def FnSharesUptoSaid : Prop := fnSharesUptoRow.holds Try.pinned (OpenSpec.upto fnSharesSpec)

/-- 'laws.FnWorth', WHERE WHAT IT READS IS OF BULK AT MOST 1048576: true; the input reads as it did. -/
def fnWorthUptoRow : OpenClaim := { program := "ytdpiepddafpceaa", sum := "ddd3eb0f9cff1ca1349778bd4fa17d86a057d695609f9ad9ec9129b5bf1d6768", func := "loop.example/g00614/laws.FnWorth", spec := "fnWorth", unfollowed := true, recurses := true, apart := false, narrowed := true }
def FnWorthUptoSaid : Prop := fnWorthUptoRow.holds Try.pinned (OpenSpec.upto fnWorthSpec)

/-- 'laws.FnExactMillOk', WHERE WHAT IT READS IS OF BULK AT MOST 1048576: true; the input reads as it did. -/
def fnExactMillOkUptoRow : OpenClaim := { program := "ytdpiepddafpceaa", sum := "ddd3eb0f9cff1ca1349778bd4fa17d86a057d695609f9ad9ec9129b5bf1d6768", func := "loop.example/g00614/laws.FnExactMillOk", spec := "fnExactMillOk", apart := false, narrowed := true }
def FnExactMillOkUptoSaid : Prop := fnExactMillOkUptoRow.holds Try.pinned (OpenSpec.upto fnExactMillOkSpec)

/-- 'laws.FnExactMillsOk', WHERE WHAT IT READS IS OF BULK AT MOST 1048576: true; the input reads as it did. -/
def fnExactMillsOkUptoRow : OpenClaim := { program := "ytdpiepddafpceaa", sum := "ddd3eb0f9cff1ca1349778bd4fa17d86a057d695609f9ad9ec9129b5bf1d6768", func := "loop.example/g00614/laws.FnExactMillsOk", spec := "fnExactMillsOk", unfollowed := true, recurses := true, apart := false, narrowed := true }
def FnExactMillsOkUptoSaid : Prop := fnExactMillsOkUptoRow.holds Try.pinned (OpenSpec.upto fnExactMillsOkSpec)

/-- 'laws.FnExactMillIn', WHERE WHAT IT READS IS OF BULK AT MOST 1048576: true; the input reads as it did. -/
def fnExactMillInUptoRow : OpenClaim := { program := "ytdpiepddafpceaa", sum := "ddd3eb0f9cff1ca1349778bd4fa17d86a057d695609f9ad9ec9129b5bf1d6768", func := "loop.example/g00614/laws.FnExactMillIn", spec := "fnExactMillIn", unfollowed := true, recurses := true, apart := false, narrowed := true }
def FnExactMillInUptoSaid : Prop := fnExactMillInUptoRow.holds Try.pinned (OpenSpec.upto fnExactMillInSpec)

/-- 'laws.FnExactWorth', WHERE WHAT IT READS IS OF BULK AT MOST 1048576: true; the input reads as it did. -/
def fnExactWorthUptoRow : OpenClaim := { program := "ytdpiepddafpceaa", sum := "ddd3eb0f9cff1ca1349778bd4fa17d86a057d695609f9ad9ec9129b5bf1d6768", func := "loop.example/g00614/laws.FnExactWorth", spec := "fnExactWorth", unfollowed := true, recurses := true, apart := false, narrowed := true }
def FnExactWorthUptoSaid : Prop := fnExactWorthUptoRow.holds Try.pinned (OpenSpec.upto fnExactWorthSpec)

/-- 'laws.FnExactSharesFor', WHERE WHAT IT READS IS OF BULK AT MOST 1048576: true; the input reads as it did. -/
def fnExactSharesForUptoRow : OpenClaim := { program := "ytdpiepddafpceaa", sum := "ddd3eb0f9cff1ca1349778bd4fa17d86a057d695609f9ad9ec9129b5bf1d6768", func := "loop.example/g00614/laws.FnExactSharesFor", spec := "fnExactSharesFor", unfollowed := true, recurses := true, apart := false, narrowed := true }
def FnExactSharesForUptoSaid : Prop := fnExactSharesForUptoRow.holds Try.pinned (OpenSpec.upto fnExactSharesForSpec)

/-- 'laws.FnExactStakesIn', WHERE WHAT IT READS IS OF BULK AT MOST 1048576: true; the input reads as it did. -/
def fnExactStakesInUptoRow : OpenClaim := { program := "ytdpiepddafpceaa", sum := "ddd3eb0f9cff1ca1349778bd4fa17d86a057d695609f9ad9ec9129b5bf1d6768", func := "loop.example/g00614/laws.FnExactStakesIn", spec := "fnExactStakesIn", unfollowed := true, recurses := true, apart := false, narrowed := true }
def FnExactStakesInUptoSaid : Prop := fnExactStakesInUptoRow.holds Try.pinned (OpenSpec.upto fnExactStakesInSpec)

/-- 'laws.FnExactCheaper', WHERE WHAT IT READS IS OF BULK AT MOST 1048576: true; the input reads as it did. -/
def fnExactCheaperUptoRow : OpenClaim := { program := "ytdpiepddafpceaa", sum := "ddd3eb0f9cff1ca1349778bd4fa17d86a057d695609f9ad9ec9129b5bf1d6768", func := "loop.example/g00614/laws.FnExactCheaper", spec := "fnExactCheaper", apart := false, narrowed := true }
def FnExactCheaperUptoSaid : Prop := fnExactCheaperUptoRow.holds Try.pinned (OpenSpec.upto fnExactCheaperSpec)

end Rows
end Go.Proofs.Ytdpiepddafpceaa
