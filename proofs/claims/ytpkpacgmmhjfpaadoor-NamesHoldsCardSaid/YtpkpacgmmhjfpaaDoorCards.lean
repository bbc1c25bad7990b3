/-
  DERIVED. GIVEN WITH THE SEED: THE CARDS: each row of YtpkpacgmmhjfpaaDoorRows.lean that lists a variable, with what it lists TIED to the program's text (the seventh form; the later family's looks); each row that meets fmt, with fmt's text TOLD by the authors' own Lean function (tested against real Go, not proved from fmt's source: count such statements apart). THE CARD IS WHAT COUNTS. Prove the row's statement (the work); the ties are given (YtpkpacgmmhjfpaaDoorTie.lean); close each card by the builder's one call (the guide's Derived/Test/ToyasCard.lean, 'card_holds'). Laid BY PROGRAM, IN A SANDBOX (cutbox-door.mjs). By AI agents, Wed Nov 11 2026. No macro, syntax, notation, axiom, sorry.
-/
import Derived.Test.YtpkpacgmmhjfpaaDoorRows
import GoSem.ClaimSeven
namespace Go.Proofs.YtpkpacgmmhjfpaaDoor
namespace Rows

/-- THE TIED CARD OF 'pannierlaw07.NamesKeys'. -/
def namesKeysCard : Claim7 := { stood := { row := namesKeysRow, standIns := [], harness := (true, "07755fd68d129214c68618b02a8a8ff0bf9c9f0c4767e7e8e542622da2c6cfd7"), looks := false }, kinds := [], alts := [], laidByText := true, laidKinds := [.data, .sentinel, .pinned], laidTests := true, laidLooks := .later }
def NamesKeysCardSaid : Prop := Claim7.holds Tryd.pinned (.plain (OpenSpec.ofChange namesKeysSpec)) namesKeysCard

/-- THE TIED CARD OF 'pannierlaw07.NamesBytes'. -/
def namesBytesCard : Claim7 := { stood := { row := namesBytesRow, standIns := [], harness := (true, "07755fd68d129214c68618b02a8a8ff0bf9c9f0c4767e7e8e542622da2c6cfd7"), looks := false }, kinds := [], alts := [], laidByText := true, laidKinds := [.data, .sentinel, .pinned], laidTests := true, laidLooks := .later }
def NamesBytesCardSaid : Prop := Claim7.holds Tryd.pinned (.plain (OpenSpec.ofChange namesBytesSpec)) namesBytesCard

/-- THE TIED CARD OF 'pannierlaw07.NamesQuotes'. -/
def namesQuotesCard : Claim7 := { stood := { row := namesQuotesRow, standIns := [], harness := (true, "07755fd68d129214c68618b02a8a8ff0bf9c9f0c4767e7e8e542622da2c6cfd7"), looks := false }, kinds := [], alts := [], laidByText := true, laidKinds := [.data, .sentinel, .pinned], laidTests := true, laidLooks := .later }
def NamesQuotesCardSaid : Prop := Claim7.holds Tryd.pinned (.plain (OpenSpec.ofChange namesQuotesSpec)) namesQuotesCard

/-- THE TIED CARD OF 'pannierlaw07.NamesFields'. -/
def namesFieldsCard : Claim7 := { stood := { row := namesFieldsRow, standIns := [], harness := (true, "07755fd68d129214c68618b02a8a8ff0bf9c9f0c4767e7e8e542622da2c6cfd7"), looks := false }, kinds := [], alts := [], laidByText := true, laidKinds := [.data, .sentinel, .pinned], laidTests := true, laidLooks := .later }
def NamesFieldsCardSaid : Prop := Claim7.holds Tryd.pinned (.plain (OpenSpec.ofChange namesFieldsSpec)) namesFieldsCard

/-- THE TIED CARD OF 'pannierlaw07.NamesHolds'. -/
def namesHoldsCard : Claim7 := { stood := { row := namesHoldsRow, standIns := [], harness := (true, "07755fd68d129214c68618b02a8a8ff0bf9c9f0c4767e7e8e542622da2c6cfd7"), looks := false }, kinds := [], alts := [], laidByText := true, laidKinds := [.data, .sentinel, .pinned], laidTests := true, laidLooks := .later }
def NamesHoldsCardSaid : Prop := Claim7.holds Tryd.pinned (.plain (OpenSpec.ofChange namesHoldsSpec)) namesHoldsCard

/-- THE SECOND FORM's CARD OF 'pannierlaw07.NamesKeys'. -/
def namesKeysUptoCard : Claim7 := { stood := { row := namesKeysUptoRow, standIns := [], harness := (true, "07755fd68d129214c68618b02a8a8ff0bf9c9f0c4767e7e8e542622da2c6cfd7"), looks := false }, kinds := [], alts := [], laidByText := true, laidKinds := [.data, .sentinel, .pinned], laidTests := true, laidLooks := .later }
def NamesKeysUptoCardSaid : Prop := Claim7.holds Tryd.pinned (.plain (OpenSpec.upto namesKeysSpec)) namesKeysUptoCard

/-- THE SECOND FORM's CARD OF 'pannierlaw07.NamesBytes'. -/
def namesBytesUptoCard : Claim7 := { stood := { row := namesBytesUptoRow, standIns := [], harness := (true, "07755fd68d129214c68618b02a8a8ff0bf9c9f0c4767e7e8e542622da2c6cfd7"), looks := false }, kinds := [], alts := [], laidByText := true, laidKinds := [.data, .sentinel, .pinned], laidTests := true, laidLooks := .later }
def NamesBytesUptoCardSaid : Prop := Claim7.holds Tryd.pinned (.plain (OpenSpec.upto namesBytesSpec)) namesBytesUptoCard

/-- THE SECOND FORM's CARD OF 'pannierlaw07.NamesQuotes'. -/
def namesQuotesUptoCard : Claim7 := { stood := { row := namesQuotesUptoRow, standIns := [], harness := (true, "07755fd68d129214c68618b02a8a8ff0bf9c9f0c4767e7e8e542622da2c6cfd7"), looks := false }, kinds := [], alts := [], laidByText := true, laidKinds := [.data, .sentinel, .pinned], laidTests := true, laidLooks := .later }
def NamesQuotesUptoCardSaid : Prop := Claim7.holds Tryd.pinned (.plain (OpenSpec.upto namesQuotesSpec)) namesQuotesUptoCard

/-- THE SECOND FORM's CARD OF 'pannierlaw07.NamesFields'. -/
def namesFieldsUptoCard : Claim7 := { stood := { row := namesFieldsUptoRow, standIns := [], harness := (true, "07755fd68d129214c68618b02a8a8ff0bf9c9f0c4767e7e8e542622da2c6cfd7"), looks := false }, kinds := [], alts := [], laidByText := true, laidKinds := [.data, .sentinel, .pinned], laidTests := true, laidLooks := .later }
def NamesFieldsUptoCardSaid : Prop := Claim7.holds Tryd.pinned (.plain (OpenSpec.upto namesFieldsSpec)) namesFieldsUptoCard

/-- THE SECOND FORM's CARD OF 'pannierlaw07.NamesHolds'. -/
def namesHoldsUptoCard : Claim7 := { stood := { row := namesHoldsUptoRow, standIns := [], harness := (true, "07755fd68d129214c68618b02a8a8ff0bf9c9f0c4767e7e8e542622da2c6cfd7"), looks := false }, kinds := [], alts := [], laidByText := true, laidKinds := [.data, .sentinel, .pinned], laidTests := true, laidLooks := .later }
def NamesHoldsUptoCardSaid : Prop := Claim7.holds Tryd.pinned (.plain (OpenSpec.upto namesHoldsSpec)) namesHoldsUptoCard
end Rows
end Go.Proofs.YtpkpacgmmhjfpaaDoor
