/-
  DERIVED. GIVEN WITH THE SEED: THE CARDS: each row of YtiijagmakkgnnaaDoorRows.lean that lists a variable, with what it lists TIED to the program's text (the seventh form; the later family's looks); each row that meets fmt, with fmt's text TOLD by the authors' own Lean function (tested against real Go, not proved from fmt's source: count such statements apart). THE CARD IS WHAT COUNTS. Prove the row's statement (the work); the ties are given (YtiijagmakkgnnaaDoorTie.lean); close each card by the builder's one call (the guide's Derived/Test/ToyasCard.lean, 'card_holds'). Laid BY PROGRAM, IN A SANDBOX (cutbox-door.mjs). By AI agents, Wed Nov 11 2026. No macro, syntax, notation, axiom, sorry.
-/
import Derived.Test.YtiijagmakkgnnaaDoorRows
import GoSem.ClaimSeven
namespace Go.Proofs.YtiijagmakkgnnaaDoor
namespace Rows

/-- THE TIED CARD OF 'laws.FnExactDeedOk'. -/
def fnExactDeedOkCard : Claim7 := { stood := { row := fnExactDeedOkRow, standIns := [], harness := (true, "eb325062662bcc40354a6738bfb1c0a06fa65cd317f412856560b0c3bd05c9b8"), looks := true }, kinds := [], alts := [], laidByText := true, laidKinds := [.data, .data, .data, .sentinel, .sentinel], laidTests := true, laidLooks := .later }
def FnExactDeedOkCardSaid : Prop := Claim7.holds Tryd.pinned (.plain (OpenSpec.ofChange fnExactDeedOkSpec)) fnExactDeedOkCard

/-- THE TIED CARD OF 'laws.FnExactShowDeed'. -/
def fnExactShowDeedCard : Claim7 := { stood := { row := fnExactShowDeedRow, standIns := [], harness := (true, "eb325062662bcc40354a6738bfb1c0a06fa65cd317f412856560b0c3bd05c9b8"), looks := true }, kinds := [], alts := [], laidByText := true, laidKinds := [.data, .data, .data, .sentinel, .sentinel], laidTests := true, laidLooks := .later }
def FnExactShowDeedCardSaid : Prop := Claim7.holds Tryd.pinned (.plain (OpenSpec.ofChange fnExactShowDeedSpec)) fnExactShowDeedCard

/-- THE TIED CARD OF 'laws.FnExactReadDeeds'. -/
def fnExactReadDeedsCard : Claim7 := { stood := { row := fnExactReadDeedsRow, standIns := [], harness := (true, "eb325062662bcc40354a6738bfb1c0a06fa65cd317f412856560b0c3bd05c9b8"), looks := true }, kinds := [], alts := [], laidByText := true, laidKinds := [.data, .data, .data, .data, .sentinel, .sentinel, .pinned], laidTests := true, laidLooks := .later }
def FnExactReadDeedsCardSaid : Prop := Claim7.holds Tryd.pinned (.plain (OpenSpec.ofChange fnExactReadDeedsSpec)) fnExactReadDeedsCard

/-- THE TIED CARD OF 'laws.FnExactReadDeed'. -/
def fnExactReadDeedCard : Claim7 := { stood := { row := fnExactReadDeedRow, standIns := [], harness := (true, "eb325062662bcc40354a6738bfb1c0a06fa65cd317f412856560b0c3bd05c9b8"), looks := true }, kinds := [], alts := [], laidByText := true, laidKinds := [.data, .data, .data, .data, .sentinel, .sentinel, .pinned], laidTests := true, laidLooks := .later }
def FnExactReadDeedCardSaid : Prop := Claim7.holds Tryd.pinned (.plain (OpenSpec.ofChange fnExactReadDeedSpec)) fnExactReadDeedCard

/-- THE SECOND FORM's CARD OF 'laws.FnExactDeedOk'. -/
def fnExactDeedOkUptoCard : Claim7 := { stood := { row := fnExactDeedOkUptoRow, standIns := [], harness := (true, "eb325062662bcc40354a6738bfb1c0a06fa65cd317f412856560b0c3bd05c9b8"), looks := true }, kinds := [], alts := [], laidByText := true, laidKinds := [.data, .data, .data, .sentinel, .sentinel], laidTests := true, laidLooks := .later }
def FnExactDeedOkUptoCardSaid : Prop := Claim7.holds Tryd.pinned (.plain (OpenSpec.upto fnExactDeedOkSpec)) fnExactDeedOkUptoCard

/-- THE SECOND FORM's CARD OF 'laws.FnExactShowDeed'. -/
def fnExactShowDeedUptoCard : Claim7 := { stood := { row := fnExactShowDeedUptoRow, standIns := [], harness := (true, "eb325062662bcc40354a6738bfb1c0a06fa65cd317f412856560b0c3bd05c9b8"), looks := true }, kinds := [], alts := [], laidByText := true, laidKinds := [.data, .data, .data, .sentinel, .sentinel], laidTests := true, laidLooks := .later }
def FnExactShowDeedUptoCardSaid : Prop := Claim7.holds Tryd.pinned (.plain (OpenSpec.upto fnExactShowDeedSpec)) fnExactShowDeedUptoCard

/-- THE SECOND FORM's CARD OF 'laws.FnExactReadDeeds'. -/
def fnExactReadDeedsUptoCard : Claim7 := { stood := { row := fnExactReadDeedsUptoRow, standIns := [], harness := (true, "eb325062662bcc40354a6738bfb1c0a06fa65cd317f412856560b0c3bd05c9b8"), looks := true }, kinds := [], alts := [], laidByText := true, laidKinds := [.data, .data, .data, .data, .sentinel, .sentinel, .pinned], laidTests := true, laidLooks := .later }
def FnExactReadDeedsUptoCardSaid : Prop := Claim7.holds Tryd.pinned (.plain (OpenSpec.upto fnExactReadDeedsSpec)) fnExactReadDeedsUptoCard

/-- THE SECOND FORM's CARD OF 'laws.FnExactReadDeed'. -/
def fnExactReadDeedUptoCard : Claim7 := { stood := { row := fnExactReadDeedUptoRow, standIns := [], harness := (true, "eb325062662bcc40354a6738bfb1c0a06fa65cd317f412856560b0c3bd05c9b8"), looks := true }, kinds := [], alts := [], laidByText := true, laidKinds := [.data, .data, .data, .data, .sentinel, .sentinel, .pinned], laidTests := true, laidLooks := .later }
def FnExactReadDeedUptoCardSaid : Prop := Claim7.holds Tryd.pinned (.plain (OpenSpec.upto fnExactReadDeedSpec)) fnExactReadDeedUptoCard
end Rows
end Go.Proofs.YtiijagmakkgnnaaDoor
