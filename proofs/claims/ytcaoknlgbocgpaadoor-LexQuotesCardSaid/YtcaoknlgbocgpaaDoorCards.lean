/-
  DERIVED. GIVEN WITH THE SEED: THE CARDS: each row of YtcaoknlgbocgpaaDoorRows.lean that lists a variable, with what it lists TIED to the program's text (the seventh form; the later family's looks); each row that meets fmt, with fmt's text TOLD by the authors' own Lean function (tested against real Go, not proved from fmt's source: count such statements apart). THE CARD IS WHAT COUNTS. Prove the row's statement (the work); the ties are given (YtcaoknlgbocgpaaDoorTie.lean); close each card by the builder's one call (the guide's Derived/Test/ToyasCard.lean, 'card_holds'). Laid BY PROGRAM, IN A SANDBOX (cutbox-door.mjs). By AI agents, Wed Nov 11 2026. No macro, syntax, notation, axiom, sorry.
-/
import Derived.Test.YtcaoknlgbocgpaaDoorRows
import GoSem.ClaimSeven
namespace Go.Proofs.YtcaoknlgbocgpaaDoor
namespace Rows

/-- THE TIED CARD OF 'motleylaw03.LexBack'. -/
def lexBackCard : Claim7 := { stood := { row := lexBackRow, standIns := [], harness := (true, "f89d31ef4576dd125e667a9922ba189252ee598a46d08eef908d3a380e20db12"), looks := true }, kinds := [], alts := [], laidByText := true, laidKinds := [.listed, .data], laidTests := true, laidLooks := .later }
def LexBackCardSaid : Prop := Claim7.holds Tryd.pinned (.plain (OpenSpec.ofChange lexBackSpec)) lexBackCard

/-- THE TIED CARD OF 'motleylaw03.LexSames'. -/
def lexSamesCard : Claim7 := { stood := { row := lexSamesRow, standIns := [], harness := (true, "f89d31ef4576dd125e667a9922ba189252ee598a46d08eef908d3a380e20db12"), looks := true }, kinds := [], alts := [], laidByText := true, laidKinds := [.listed, .data], laidTests := true, laidLooks := .later }
def LexSamesCardSaid : Prop := Claim7.holds Tryd.pinned (.plain (OpenSpec.ofChange lexSamesSpec)) lexSamesCard

/-- THE TIED CARD OF 'motleylaw03.LexQuotes'. -/
def lexQuotesCard : Claim7 := { stood := { row := lexQuotesRow, standIns := [], harness := (true, "f89d31ef4576dd125e667a9922ba189252ee598a46d08eef908d3a380e20db12"), looks := true }, kinds := [], alts := [], laidByText := true, laidKinds := [.listed, .data], laidTests := true, laidLooks := .later }
def LexQuotesCardSaid : Prop := Claim7.holds Tryd.pinned (.plain (OpenSpec.ofChange lexQuotesSpec)) lexQuotesCard

/-- THE SECOND FORM's CARD OF 'motleylaw03.LexBack'. -/
def lexBackUptoCard : Claim7 := { stood := { row := lexBackUptoRow, standIns := [], harness := (true, "f89d31ef4576dd125e667a9922ba189252ee598a46d08eef908d3a380e20db12"), looks := true }, kinds := [], alts := [], laidByText := true, laidKinds := [.listed, .data], laidTests := true, laidLooks := .later }
def LexBackUptoCardSaid : Prop := Claim7.holds Tryd.pinned (.plain (OpenSpec.upto lexBackSpec)) lexBackUptoCard

/-- THE SECOND FORM's CARD OF 'motleylaw03.LexSames'. -/
def lexSamesUptoCard : Claim7 := { stood := { row := lexSamesUptoRow, standIns := [], harness := (true, "f89d31ef4576dd125e667a9922ba189252ee598a46d08eef908d3a380e20db12"), looks := true }, kinds := [], alts := [], laidByText := true, laidKinds := [.listed, .data], laidTests := true, laidLooks := .later }
def LexSamesUptoCardSaid : Prop := Claim7.holds Tryd.pinned (.plain (OpenSpec.upto lexSamesSpec)) lexSamesUptoCard

/-- THE SECOND FORM's CARD OF 'motleylaw03.LexQuotes'. -/
def lexQuotesUptoCard : Claim7 := { stood := { row := lexQuotesUptoRow, standIns := [], harness := (true, "f89d31ef4576dd125e667a9922ba189252ee598a46d08eef908d3a380e20db12"), looks := true }, kinds := [], alts := [], laidByText := true, laidKinds := [.listed, .data], laidTests := true, laidLooks := .later }
def LexQuotesUptoCardSaid : Prop := Claim7.holds Tryd.pinned (.plain (OpenSpec.upto lexQuotesSpec)) lexQuotesUptoCard
end Rows
end Go.Proofs.YtcaoknlgbocgpaaDoor
