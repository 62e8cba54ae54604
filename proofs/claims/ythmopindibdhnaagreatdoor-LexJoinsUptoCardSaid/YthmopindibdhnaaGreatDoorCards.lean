/-
  DERIVED. GIVEN WITH THE SEED: THE CARDS: each row of YthmopindibdhnaaGreatDoorRows.lean that lists a variable, with what it lists TIED to the program's text (the seventh form; the later family's looks); each row that meets fmt, with fmt's text TOLD by the authors' own Lean function (tested against real Go, not proved from fmt's source: count such statements apart). THE CARD IS WHAT COUNTS. Prove the row's statement (the work); the ties are given (YthmopindibdhnaaGreatDoorTie.lean); close each card by the builder's one call (the guide's Derived/Test/ToyasCard.lean, 'card_holds'). Laid BY PROGRAM, IN A SANDBOX (cutbox-door.mjs). By AI agents, Wed Nov 11 2026. No macro, syntax, notation, axiom, sorry.
-/
import Derived.Test.YthmopindibdhnaaGreatDoorRows
import GoSem.ClaimSeven
namespace Go.Proofs.YthmopindibdhnaaGreatDoor
namespace Rows

/-- THE TIED CARD OF 'motleylaw03.LexTerms'. -/
def lexTermsCard : Claim7 := { stood := { row := lexTermsRow, standIns := [], harness := (true, "ee147d9ceab86bdc61b31c690195d2170ffe172e1ede8e6bcab7dd5c02115ad2"), looks := true }, kinds := [], alts := [], laidByText := true, laidKinds := [.listed, .data], laidTests := true, laidLooks := .later }
def LexTermsCardSaid : Prop := Claim7.holds Tryz.pinned (.plain (OpenSpec.ofChange lexTermsSpec)) lexTermsCard

/-- THE TIED CARD OF 'motleylaw03.LexJoins'. -/
def lexJoinsCard : Claim7 := { stood := { row := lexJoinsRow, standIns := [], harness := (true, "ee147d9ceab86bdc61b31c690195d2170ffe172e1ede8e6bcab7dd5c02115ad2"), looks := true }, kinds := [], alts := [], laidByText := true, laidKinds := [.listed, .data], laidTests := true, laidLooks := .later }
def LexJoinsCardSaid : Prop := Claim7.holds Tryz.pinned (.plain (OpenSpec.ofChange lexJoinsSpec)) lexJoinsCard

/-- THE TIED CARD OF 'motleylaw03.LexPlaces'. -/
def lexPlacesCard : Claim7 := { stood := { row := lexPlacesRow, standIns := [], harness := (true, "ee147d9ceab86bdc61b31c690195d2170ffe172e1ede8e6bcab7dd5c02115ad2"), looks := true }, kinds := [], alts := [], laidByText := true, laidKinds := [.listed, .data], laidTests := true, laidLooks := .later }
def LexPlacesCardSaid : Prop := Claim7.holds Tryz.pinned (.plain (OpenSpec.ofChange lexPlacesSpec)) lexPlacesCard

/-- THE TIED CARD OF 'motleylaw03.LexKeeps'. -/
def lexKeepsCard : Claim7 := { stood := { row := lexKeepsRow, standIns := [], harness := (true, "ee147d9ceab86bdc61b31c690195d2170ffe172e1ede8e6bcab7dd5c02115ad2"), looks := true }, kinds := [], alts := [], laidByText := true, laidKinds := [.listed, .data], laidTests := true, laidLooks := .later }
def LexKeepsCardSaid : Prop := Claim7.holds Tryz.pinned (.plain (OpenSpec.ofChange lexKeepsSpec)) lexKeepsCard

/-- THE SECOND FORM's CARD OF 'motleylaw03.LexTerms'. -/
def lexTermsUptoCard : Claim7 := { stood := { row := lexTermsUptoRow, standIns := [], harness := (true, "ee147d9ceab86bdc61b31c690195d2170ffe172e1ede8e6bcab7dd5c02115ad2"), looks := true }, kinds := [], alts := [], laidByText := true, laidKinds := [.listed, .data], laidTests := true, laidLooks := .later }
def LexTermsUptoCardSaid : Prop := Claim7.holds Tryz.pinned (.plain (OpenSpec.upto lexTermsSpec)) lexTermsUptoCard

/-- THE SECOND FORM's CARD OF 'motleylaw03.LexJoins'. -/
def lexJoinsUptoCard : Claim7 := { stood := { row := lexJoinsUptoRow, standIns := [], harness := (true, "ee147d9ceab86bdc61b31c690195d2170ffe172e1ede8e6bcab7dd5c02115ad2"), looks := true }, kinds := [], alts := [], laidByText := true, laidKinds := [.listed, .data], laidTests := true, laidLooks := .later }
def LexJoinsUptoCardSaid : Prop := Claim7.holds Tryz.pinned (.plain (OpenSpec.upto lexJoinsSpec)) lexJoinsUptoCard

/-- THE SECOND FORM's CARD OF 'motleylaw03.LexPlaces'. -/
def lexPlacesUptoCard : Claim7 := { stood := { row := lexPlacesUptoRow, standIns := [], harness := (true, "ee147d9ceab86bdc61b31c690195d2170ffe172e1ede8e6bcab7dd5c02115ad2"), looks := true }, kinds := [], alts := [], laidByText := true, laidKinds := [.listed, .data], laidTests := true, laidLooks := .later }
def LexPlacesUptoCardSaid : Prop := Claim7.holds Tryz.pinned (.plain (OpenSpec.upto lexPlacesSpec)) lexPlacesUptoCard

/-- THE SECOND FORM's CARD OF 'motleylaw03.LexKeeps'. -/
def lexKeepsUptoCard : Claim7 := { stood := { row := lexKeepsUptoRow, standIns := [], harness := (true, "ee147d9ceab86bdc61b31c690195d2170ffe172e1ede8e6bcab7dd5c02115ad2"), looks := true }, kinds := [], alts := [], laidByText := true, laidKinds := [.listed, .data], laidTests := true, laidLooks := .later }
def LexKeepsUptoCardSaid : Prop := Claim7.holds Tryz.pinned (.plain (OpenSpec.upto lexKeepsSpec)) lexKeepsUptoCard
end Rows
end Go.Proofs.YthmopindibdhnaaGreatDoor
