/-
  DERIVED. GIVEN WITH THE SEED: THE CARDS: each row of YtiohoiebnpdkbaaDoorRows.lean that lists a variable, with what it lists TIED to the program's text (the seventh form; the later family's looks); each row that meets fmt, with fmt's text TOLD by the authors' own Lean function (tested against real Go, not proved from fmt's source: count such statements apart). THE CARD IS WHAT COUNTS. Prove the row's statement (the work); the ties are given (YtiohoiebnpdkbaaDoorTie.lean); close each card by the builder's one call (the guide's Derived/Test/ToyasCard.lean, 'card_holds'). Laid BY PROGRAM, IN A SANDBOX (cutbox-door.mjs). By AI agents, Wed Nov 11 2026. No macro, syntax, notation, axiom, sorry.
-/
import Derived.Test.YtiohoiebnpdkbaaDoorRows
import GoSem.ClaimSeven
namespace Go.Proofs.YtiohoiebnpdkbaaDoor
namespace Rows

/-- THE TIED CARD OF 'motleylaw02.CharsClasses'. -/
def charsClassesCard : Claim7 := { stood := { row := charsClassesRow, standIns := [], harness := (true, "b1ee1b82bfc6d0e3edfdad01a25978f47371b9f2574e0ac040102cf966d54c35"), looks := true }, kinds := [], alts := [], laidByText := true, laidKinds := [.data, .pinned, .pinned], laidTests := true, laidLooks := .later }
def CharsClassesCardSaid : Prop := Claim7.holds Tryd.pinned (.plain (OpenSpec.ofChange charsClassesSpec)) charsClassesCard

/-- THE TIED CARD OF 'motleylaw03.LexBack'. -/
def lexBackCard : Claim7 := { stood := { row := lexBackRow, standIns := [], harness := (true, "b1ee1b82bfc6d0e3edfdad01a25978f47371b9f2574e0ac040102cf966d54c35"), looks := true }, kinds := [], alts := [], laidByText := true, laidKinds := [.listed, .data], laidTests := true, laidLooks := .later }
def LexBackCardSaid : Prop := Claim7.holds Tryd.pinned (.plain (OpenSpec.ofChange lexBackSpec)) lexBackCard

/-- THE TIED CARD OF 'motleylaw03.LexSames'. -/
def lexSamesCard : Claim7 := { stood := { row := lexSamesRow, standIns := [], harness := (true, "b1ee1b82bfc6d0e3edfdad01a25978f47371b9f2574e0ac040102cf966d54c35"), looks := true }, kinds := [], alts := [], laidByText := true, laidKinds := [.listed, .data], laidTests := true, laidLooks := .later }
def LexSamesCardSaid : Prop := Claim7.holds Tryd.pinned (.plain (OpenSpec.ofChange lexSamesSpec)) lexSamesCard

/-- THE TIED CARD OF 'motleylaw03.LexQuotes'. -/
def lexQuotesCard : Claim7 := { stood := { row := lexQuotesRow, standIns := [], harness := (true, "b1ee1b82bfc6d0e3edfdad01a25978f47371b9f2574e0ac040102cf966d54c35"), looks := true }, kinds := [], alts := [], laidByText := true, laidKinds := [.listed, .data], laidTests := true, laidLooks := .later }
def LexQuotesCardSaid : Prop := Claim7.holds Tryd.pinned (.plain (OpenSpec.ofChange lexQuotesSpec)) lexQuotesCard

/-- THE TIED CARD OF 'motleylaw03.LexWords'. -/
def lexWordsCard : Claim7 := { stood := { row := lexWordsRow, standIns := [], harness := (true, "b1ee1b82bfc6d0e3edfdad01a25978f47371b9f2574e0ac040102cf966d54c35"), looks := true }, kinds := [], alts := [], laidByText := true, laidKinds := [.listed, .data], laidTests := true, laidLooks := .later }
def LexWordsCardSaid : Prop := Claim7.holds Tryd.pinned (.plain (OpenSpec.ofChange lexWordsSpec)) lexWordsCard

/-- THE SECOND FORM's CARD OF 'motleylaw02.CharsClasses'. -/
def charsClassesUptoCard : Claim7 := { stood := { row := charsClassesUptoRow, standIns := [], harness := (true, "b1ee1b82bfc6d0e3edfdad01a25978f47371b9f2574e0ac040102cf966d54c35"), looks := true }, kinds := [], alts := [], laidByText := true, laidKinds := [.data, .pinned, .pinned], laidTests := true, laidLooks := .later }
def CharsClassesUptoCardSaid : Prop := Claim7.holds Tryd.pinned (.plain (OpenSpec.upto charsClassesSpec)) charsClassesUptoCard

/-- THE SECOND FORM's CARD OF 'motleylaw03.LexBack'. -/
def lexBackUptoCard : Claim7 := { stood := { row := lexBackUptoRow, standIns := [], harness := (true, "b1ee1b82bfc6d0e3edfdad01a25978f47371b9f2574e0ac040102cf966d54c35"), looks := true }, kinds := [], alts := [], laidByText := true, laidKinds := [.listed, .data], laidTests := true, laidLooks := .later }
def LexBackUptoCardSaid : Prop := Claim7.holds Tryd.pinned (.plain (OpenSpec.upto lexBackSpec)) lexBackUptoCard

/-- THE SECOND FORM's CARD OF 'motleylaw03.LexSames'. -/
def lexSamesUptoCard : Claim7 := { stood := { row := lexSamesUptoRow, standIns := [], harness := (true, "b1ee1b82bfc6d0e3edfdad01a25978f47371b9f2574e0ac040102cf966d54c35"), looks := true }, kinds := [], alts := [], laidByText := true, laidKinds := [.listed, .data], laidTests := true, laidLooks := .later }
def LexSamesUptoCardSaid : Prop := Claim7.holds Tryd.pinned (.plain (OpenSpec.upto lexSamesSpec)) lexSamesUptoCard

/-- THE SECOND FORM's CARD OF 'motleylaw03.LexQuotes'. -/
def lexQuotesUptoCard : Claim7 := { stood := { row := lexQuotesUptoRow, standIns := [], harness := (true, "b1ee1b82bfc6d0e3edfdad01a25978f47371b9f2574e0ac040102cf966d54c35"), looks := true }, kinds := [], alts := [], laidByText := true, laidKinds := [.listed, .data], laidTests := true, laidLooks := .later }
def LexQuotesUptoCardSaid : Prop := Claim7.holds Tryd.pinned (.plain (OpenSpec.upto lexQuotesSpec)) lexQuotesUptoCard

/-- THE SECOND FORM's CARD OF 'motleylaw03.LexWords'. -/
def lexWordsUptoCard : Claim7 := { stood := { row := lexWordsUptoRow, standIns := [], harness := (true, "b1ee1b82bfc6d0e3edfdad01a25978f47371b9f2574e0ac040102cf966d54c35"), looks := true }, kinds := [], alts := [], laidByText := true, laidKinds := [.listed, .data], laidTests := true, laidLooks := .later }
def LexWordsUptoCardSaid : Prop := Claim7.holds Tryd.pinned (.plain (OpenSpec.upto lexWordsSpec)) lexWordsUptoCard
end Rows
end Go.Proofs.YtiohoiebnpdkbaaDoor
