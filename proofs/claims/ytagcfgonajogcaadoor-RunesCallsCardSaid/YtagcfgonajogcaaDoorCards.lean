/-
  DERIVED. GIVEN WITH THE SEED: THE CARDS: each row of YtagcfgonajogcaaDoorRows.lean that lists a variable, with what it lists TIED to the program's text (the seventh form; the later family's looks); each row that meets fmt, with fmt's text TOLD by the authors' own Lean function (tested against real Go, not proved from fmt's source: count such statements apart). THE CARD IS WHAT COUNTS. Prove the row's statement (the work); the ties are given (YtagcfgonajogcaaDoorTie.lean); close each card by the builder's one call (the guide's Derived/Test/ToyasCard.lean, 'card_holds'). Laid BY PROGRAM, IN A SANDBOX (cutbox-door.mjs). By AI agents, Wed Nov 11 2026. No macro, syntax, notation, axiom, sorry.
-/
import Derived.Test.YtagcfgonajogcaaDoorRows
import GoSem.ClaimSeven
namespace Go.Proofs.YtagcfgonajogcaaDoor
namespace Rows

/-- THE TIED CARD OF 'copyistlaw01.RunesNames'. -/
def runesNamesCard : Claim7 := { stood := { row := runesNamesRow, standIns := [], harness := (true, "801ae5c575d5f98012ef0465846389da9499835ef532fa0a7aa89c77de0684d6"), looks := false }, kinds := [], alts := [], laidByText := true, laidKinds := [.data, .pinned], laidTests := true, laidLooks := .later }
def RunesNamesCardSaid : Prop := Claim7.holds Tryd.pinned (.plain (OpenSpec.ofChange runesNamesSpec)) runesNamesCard

/-- THE TIED CARD OF 'copyistlaw01.RunesCalls'. -/
def runesCallsCard : Claim7 := { stood := { row := runesCallsRow, standIns := [], harness := (true, "801ae5c575d5f98012ef0465846389da9499835ef532fa0a7aa89c77de0684d6"), looks := false }, kinds := [], alts := [], laidByText := true, laidKinds := [.data, .pinned], laidTests := true, laidLooks := .later }
def RunesCallsCardSaid : Prop := Claim7.holds Tryd.pinned (.plain (OpenSpec.ofChange runesCallsSpec)) runesCallsCard

/-- THE TIED CARD OF 'copyistlaw01.RunesChars'. -/
def runesCharsCard : Claim7 := { stood := { row := runesCharsRow, standIns := [], harness := (true, "801ae5c575d5f98012ef0465846389da9499835ef532fa0a7aa89c77de0684d6"), looks := false }, kinds := [], alts := [], laidByText := true, laidKinds := [.data, .pinned], laidTests := true, laidLooks := .later }
def RunesCharsCardSaid : Prop := Claim7.holds Tryd.pinned (.plain (OpenSpec.ofChange runesCharsSpec)) runesCharsCard

/-- THE TIED CARD OF 'copyistlaw01.RunesBack'. -/
def runesBackCard : Claim7 := { stood := { row := runesBackRow, standIns := [], harness := (true, "801ae5c575d5f98012ef0465846389da9499835ef532fa0a7aa89c77de0684d6"), looks := false }, kinds := [], alts := [], laidByText := true, laidKinds := [.data, .pinned], laidTests := true, laidLooks := .later }
def RunesBackCardSaid : Prop := Claim7.holds Tryd.pinned (.plain (OpenSpec.ofChange runesBackSpec)) runesBackCard

/-- THE TIED CARD OF 'copyistlaw01.RunesCuts'. -/
def runesCutsCard : Claim7 := { stood := { row := runesCutsRow, standIns := [], harness := (true, "801ae5c575d5f98012ef0465846389da9499835ef532fa0a7aa89c77de0684d6"), looks := false }, kinds := [], alts := [], laidByText := true, laidKinds := [.data, .pinned], laidTests := true, laidLooks := .later }
def RunesCutsCardSaid : Prop := Claim7.holds Tryd.pinned (.plain (OpenSpec.ofChange runesCutsSpec)) runesCutsCard

/-- THE TIED CARD OF 'copyistlaw01.RunesJoins'. -/
def runesJoinsCard : Claim7 := { stood := { row := runesJoinsRow, standIns := [], harness := (true, "801ae5c575d5f98012ef0465846389da9499835ef532fa0a7aa89c77de0684d6"), looks := false }, kinds := [], alts := [], laidByText := true, laidKinds := [.data, .pinned], laidTests := true, laidLooks := .later }
def RunesJoinsCardSaid : Prop := Claim7.holds Tryd.pinned (.plain (OpenSpec.ofChange runesJoinsSpec)) runesJoinsCard

/-- THE TIED CARD OF 'copyistlaw01.RunesFolds'. -/
def runesFoldsCard : Claim7 := { stood := { row := runesFoldsRow, standIns := [], harness := (true, "801ae5c575d5f98012ef0465846389da9499835ef532fa0a7aa89c77de0684d6"), looks := false }, kinds := [], alts := [], laidByText := true, laidKinds := [.data, .pinned], laidTests := true, laidLooks := .later }
def RunesFoldsCardSaid : Prop := Claim7.holds Tryd.pinned (.plain (OpenSpec.ofChange runesFoldsSpec)) runesFoldsCard

/-- THE SECOND FORM's CARD OF 'copyistlaw01.RunesNames'. -/
def runesNamesUptoCard : Claim7 := { stood := { row := runesNamesUptoRow, standIns := [], harness := (true, "801ae5c575d5f98012ef0465846389da9499835ef532fa0a7aa89c77de0684d6"), looks := false }, kinds := [], alts := [], laidByText := true, laidKinds := [.data, .pinned], laidTests := true, laidLooks := .later }
def RunesNamesUptoCardSaid : Prop := Claim7.holds Tryd.pinned (.plain (OpenSpec.upto runesNamesSpec)) runesNamesUptoCard

/-- THE SECOND FORM's CARD OF 'copyistlaw01.RunesCalls'. -/
def runesCallsUptoCard : Claim7 := { stood := { row := runesCallsUptoRow, standIns := [], harness := (true, "801ae5c575d5f98012ef0465846389da9499835ef532fa0a7aa89c77de0684d6"), looks := false }, kinds := [], alts := [], laidByText := true, laidKinds := [.data, .pinned], laidTests := true, laidLooks := .later }
def RunesCallsUptoCardSaid : Prop := Claim7.holds Tryd.pinned (.plain (OpenSpec.upto runesCallsSpec)) runesCallsUptoCard

/-- THE SECOND FORM's CARD OF 'copyistlaw01.RunesChars'. -/
def runesCharsUptoCard : Claim7 := { stood := { row := runesCharsUptoRow, standIns := [], harness := (true, "801ae5c575d5f98012ef0465846389da9499835ef532fa0a7aa89c77de0684d6"), looks := false }, kinds := [], alts := [], laidByText := true, laidKinds := [.data, .pinned], laidTests := true, laidLooks := .later }
def RunesCharsUptoCardSaid : Prop := Claim7.holds Tryd.pinned (.plain (OpenSpec.upto runesCharsSpec)) runesCharsUptoCard

/-- THE SECOND FORM's CARD OF 'copyistlaw01.RunesBack'. -/
def runesBackUptoCard : Claim7 := { stood := { row := runesBackUptoRow, standIns := [], harness := (true, "801ae5c575d5f98012ef0465846389da9499835ef532fa0a7aa89c77de0684d6"), looks := false }, kinds := [], alts := [], laidByText := true, laidKinds := [.data, .pinned], laidTests := true, laidLooks := .later }
def RunesBackUptoCardSaid : Prop := Claim7.holds Tryd.pinned (.plain (OpenSpec.upto runesBackSpec)) runesBackUptoCard

/-- THE SECOND FORM's CARD OF 'copyistlaw01.RunesCuts'. -/
def runesCutsUptoCard : Claim7 := { stood := { row := runesCutsUptoRow, standIns := [], harness := (true, "801ae5c575d5f98012ef0465846389da9499835ef532fa0a7aa89c77de0684d6"), looks := false }, kinds := [], alts := [], laidByText := true, laidKinds := [.data, .pinned], laidTests := true, laidLooks := .later }
def RunesCutsUptoCardSaid : Prop := Claim7.holds Tryd.pinned (.plain (OpenSpec.upto runesCutsSpec)) runesCutsUptoCard

/-- THE SECOND FORM's CARD OF 'copyistlaw01.RunesJoins'. -/
def runesJoinsUptoCard : Claim7 := { stood := { row := runesJoinsUptoRow, standIns := [], harness := (true, "801ae5c575d5f98012ef0465846389da9499835ef532fa0a7aa89c77de0684d6"), looks := false }, kinds := [], alts := [], laidByText := true, laidKinds := [.data, .pinned], laidTests := true, laidLooks := .later }
def RunesJoinsUptoCardSaid : Prop := Claim7.holds Tryd.pinned (.plain (OpenSpec.upto runesJoinsSpec)) runesJoinsUptoCard

/-- THE SECOND FORM's CARD OF 'copyistlaw01.RunesFolds'. -/
def runesFoldsUptoCard : Claim7 := { stood := { row := runesFoldsUptoRow, standIns := [], harness := (true, "801ae5c575d5f98012ef0465846389da9499835ef532fa0a7aa89c77de0684d6"), looks := false }, kinds := [], alts := [], laidByText := true, laidKinds := [.data, .pinned], laidTests := true, laidLooks := .later }
def RunesFoldsUptoCardSaid : Prop := Claim7.holds Tryd.pinned (.plain (OpenSpec.upto runesFoldsSpec)) runesFoldsUptoCard
end Rows
end Go.Proofs.YtagcfgonajogcaaDoor
