/-
  DERIVED. GIVEN WITH THE SEED: THE CARDS: each row of YteeigngomleijaaDoorRows.lean that lists a variable, with what it lists TIED to the program's text (the seventh form; the later family's looks); each row that meets fmt, with fmt's text TOLD by the authors' own Lean function (tested against real Go, not proved from fmt's source: count such statements apart). THE CARD IS WHAT COUNTS. Prove the row's statement (the work); the ties are given (YteeigngomleijaaDoorTie.lean); close each card by the builder's one call (the guide's Derived/Test/ToyasCard.lean, 'card_holds'). Laid BY PROGRAM, IN A SANDBOX (cutbox-door.mjs). By AI agents, Wed Nov 11 2026. No macro, syntax, notation, axiom, sorry.
-/
import Derived.Test.YteeigngomleijaaDoorRows
import GoSem.ClaimSeven
namespace Go.Proofs.YteeigngomleijaaDoor
namespace Rows

/-- THE TIED CARD OF 'pannierlaw01.DotTexts'. -/
def dotTextsCard : Claim7 := { stood := { row := dotTextsRow, standIns := [], harness := (true, "35335acd7444d846e9099f015302373d2fa097347dd81495fde2a51a8363cc78"), looks := false }, kinds := [], alts := [], laidByText := true, laidKinds := [.data, .data, .data], laidTests := true, laidLooks := .later }
def DotTextsCardSaid : Prop := Claim7.holds Tryd.pinned (.plain (OpenSpec.ofChange dotTextsSpec)) dotTextsCard

/-- THE TIED CARD OF 'pannierlaw01.DotHolds'. -/
def dotHoldsCard : Claim7 := { stood := { row := dotHoldsRow, standIns := [], harness := (true, "35335acd7444d846e9099f015302373d2fa097347dd81495fde2a51a8363cc78"), looks := false }, kinds := [], alts := [], laidByText := true, laidKinds := [.data, .data, .data], laidTests := true, laidLooks := .later }
def DotHoldsCardSaid : Prop := Claim7.holds Tryd.pinned (.plain (OpenSpec.ofChange dotHoldsSpec)) dotHoldsCard

/-- THE TIED CARD OF 'pannierlaw02.VectorLooks'. -/
def vectorLooksCard : Claim7 := { stood := { row := vectorLooksRow, standIns := [], harness := (true, "35335acd7444d846e9099f015302373d2fa097347dd81495fde2a51a8363cc78"), looks := false }, kinds := [], alts := [], laidByText := true, laidKinds := [.data, .data, .data, .data, .pinned], laidTests := true, laidLooks := .later }
def VectorLooksCardSaid : Prop := Claim7.holds Tryd.pinned (.plain (OpenSpec.ofChange vectorLooksSpec)) vectorLooksCard

/-- THE TIED CARD OF 'pannierlaw02.VectorMakes'. -/
def vectorMakesCard : Claim7 := { stood := { row := vectorMakesRow, standIns := [], harness := (true, "35335acd7444d846e9099f015302373d2fa097347dd81495fde2a51a8363cc78"), looks := false }, kinds := [], alts := [], laidByText := true, laidKinds := [.data, .data, .data, .data, .pinned], laidTests := true, laidLooks := .later }
def VectorMakesCardSaid : Prop := Claim7.holds Tryd.pinned (.plain (OpenSpec.ofChange vectorMakesSpec)) vectorMakesCard

/-- THE TIED CARD OF 'pannierlaw02.VectorMerges'. -/
def vectorMergesCard : Claim7 := { stood := { row := vectorMergesRow, standIns := [], harness := (true, "35335acd7444d846e9099f015302373d2fa097347dd81495fde2a51a8363cc78"), looks := false }, kinds := [], alts := [], laidByText := true, laidKinds := [.data, .data, .data, .data, .pinned], laidTests := true, laidLooks := .later }
def VectorMergesCardSaid : Prop := Claim7.holds Tryd.pinned (.plain (OpenSpec.ofChange vectorMergesSpec)) vectorMergesCard

/-- THE TIED CARD OF 'pannierlaw02.VectorTexts'. -/
def vectorTextsCard : Claim7 := { stood := { row := vectorTextsRow, standIns := [], harness := (true, "35335acd7444d846e9099f015302373d2fa097347dd81495fde2a51a8363cc78"), looks := false }, kinds := [], alts := [], laidByText := true, laidKinds := [.data, .data, .data, .data, .pinned], laidTests := true, laidLooks := .later }
def VectorTextsCardSaid : Prop := Claim7.holds Tryd.pinned (.plain (OpenSpec.ofChange vectorTextsSpec)) vectorTextsCard

/-- THE TIED CARD OF 'pannierlaw02.VectorHolds'. -/
def vectorHoldsCard : Claim7 := { stood := { row := vectorHoldsRow, standIns := [], harness := (true, "35335acd7444d846e9099f015302373d2fa097347dd81495fde2a51a8363cc78"), looks := false }, kinds := [], alts := [], laidByText := true, laidKinds := [.data, .data, .data, .data, .pinned], laidTests := true, laidLooks := .later }
def VectorHoldsCardSaid : Prop := Claim7.holds Tryd.pinned (.plain (OpenSpec.ofChange vectorHoldsSpec)) vectorHoldsCard

/-- THE SECOND FORM's CARD OF 'pannierlaw01.DotTexts'. -/
def dotTextsUptoCard : Claim7 := { stood := { row := dotTextsUptoRow, standIns := [], harness := (true, "35335acd7444d846e9099f015302373d2fa097347dd81495fde2a51a8363cc78"), looks := false }, kinds := [], alts := [], laidByText := true, laidKinds := [.data, .data, .data], laidTests := true, laidLooks := .later }
def DotTextsUptoCardSaid : Prop := Claim7.holds Tryd.pinned (.plain (OpenSpec.upto dotTextsSpec)) dotTextsUptoCard

/-- THE SECOND FORM's CARD OF 'pannierlaw01.DotHolds'. -/
def dotHoldsUptoCard : Claim7 := { stood := { row := dotHoldsUptoRow, standIns := [], harness := (true, "35335acd7444d846e9099f015302373d2fa097347dd81495fde2a51a8363cc78"), looks := false }, kinds := [], alts := [], laidByText := true, laidKinds := [.data, .data, .data], laidTests := true, laidLooks := .later }
def DotHoldsUptoCardSaid : Prop := Claim7.holds Tryd.pinned (.plain (OpenSpec.upto dotHoldsSpec)) dotHoldsUptoCard

/-- THE SECOND FORM's CARD OF 'pannierlaw02.VectorLooks'. -/
def vectorLooksUptoCard : Claim7 := { stood := { row := vectorLooksUptoRow, standIns := [], harness := (true, "35335acd7444d846e9099f015302373d2fa097347dd81495fde2a51a8363cc78"), looks := false }, kinds := [], alts := [], laidByText := true, laidKinds := [.data, .data, .data, .data, .pinned], laidTests := true, laidLooks := .later }
def VectorLooksUptoCardSaid : Prop := Claim7.holds Tryd.pinned (.plain (OpenSpec.upto vectorLooksSpec)) vectorLooksUptoCard

/-- THE SECOND FORM's CARD OF 'pannierlaw02.VectorMakes'. -/
def vectorMakesUptoCard : Claim7 := { stood := { row := vectorMakesUptoRow, standIns := [], harness := (true, "35335acd7444d846e9099f015302373d2fa097347dd81495fde2a51a8363cc78"), looks := false }, kinds := [], alts := [], laidByText := true, laidKinds := [.data, .data, .data, .data, .pinned], laidTests := true, laidLooks := .later }
def VectorMakesUptoCardSaid : Prop := Claim7.holds Tryd.pinned (.plain (OpenSpec.upto vectorMakesSpec)) vectorMakesUptoCard

/-- THE SECOND FORM's CARD OF 'pannierlaw02.VectorMerges'. -/
def vectorMergesUptoCard : Claim7 := { stood := { row := vectorMergesUptoRow, standIns := [], harness := (true, "35335acd7444d846e9099f015302373d2fa097347dd81495fde2a51a8363cc78"), looks := false }, kinds := [], alts := [], laidByText := true, laidKinds := [.data, .data, .data, .data, .pinned], laidTests := true, laidLooks := .later }
def VectorMergesUptoCardSaid : Prop := Claim7.holds Tryd.pinned (.plain (OpenSpec.upto vectorMergesSpec)) vectorMergesUptoCard

/-- THE SECOND FORM's CARD OF 'pannierlaw02.VectorTexts'. -/
def vectorTextsUptoCard : Claim7 := { stood := { row := vectorTextsUptoRow, standIns := [], harness := (true, "35335acd7444d846e9099f015302373d2fa097347dd81495fde2a51a8363cc78"), looks := false }, kinds := [], alts := [], laidByText := true, laidKinds := [.data, .data, .data, .data, .pinned], laidTests := true, laidLooks := .later }
def VectorTextsUptoCardSaid : Prop := Claim7.holds Tryd.pinned (.plain (OpenSpec.upto vectorTextsSpec)) vectorTextsUptoCard

/-- THE SECOND FORM's CARD OF 'pannierlaw02.VectorHolds'. -/
def vectorHoldsUptoCard : Claim7 := { stood := { row := vectorHoldsUptoRow, standIns := [], harness := (true, "35335acd7444d846e9099f015302373d2fa097347dd81495fde2a51a8363cc78"), looks := false }, kinds := [], alts := [], laidByText := true, laidKinds := [.data, .data, .data, .data, .pinned], laidTests := true, laidLooks := .later }
def VectorHoldsUptoCardSaid : Prop := Claim7.holds Tryd.pinned (.plain (OpenSpec.upto vectorHoldsSpec)) vectorHoldsUptoCard
end Rows
end Go.Proofs.YteeigngomleijaaDoor
