/-
  DERIVED. GIVEN WITH THE SEED: THE CARDS: each row of YtlibdhnlmekmhaaGreatDoorRows.lean that lists a variable, with what it lists TIED to the program's text (the seventh form; the later family's looks); each row that meets fmt, with fmt's text TOLD by the authors' own Lean function (tested against real Go, not proved from fmt's source: count such statements apart). THE CARD IS WHAT COUNTS. Prove the row's statement (the work); the ties are given (YtlibdhnlmekmhaaGreatDoorTie.lean); close each card by the builder's one call (the guide's Derived/Test/ToyasCard.lean, 'card_holds'). Laid BY PROGRAM, IN A SANDBOX (cutbox-door.mjs). By AI agents, Wed Nov 11 2026. No macro, syntax, notation, axiom, sorry.
-/
import Derived.Test.YtlibdhnlmekmhaaGreatDoorRows
import GoSem.ClaimSeven
namespace Go.Proofs.YtlibdhnlmekmhaaGreatDoor
namespace Rows

/-- THE TIED CARD OF 'copyistlaw05.ReadNames'. -/
def readNamesCard : Claim7 := { stood := { row := readNamesRow, standIns := [], harness := (true, "ce818bc6a0c74ee49c5e253b0ed647f385b213d51d3fd947cf4fcab730f961ea"), looks := true }, kinds := [], alts := [], laidByText := true, laidKinds := [.data, .data, .data, .data, .sentinel, .sentinel, .pinned], laidTests := true, laidLooks := .later }
def ReadNamesCardSaid : Prop := Claim7.holds Tryz.pinned (.plain (OpenSpec.ofChange readNamesSpec)) readNamesCard

/-- THE TIED CARD OF 'copyistlaw05.ReadBehind'. -/
def readBehindCard : Claim7 := { stood := { row := readBehindRow, standIns := [], harness := (true, "ce818bc6a0c74ee49c5e253b0ed647f385b213d51d3fd947cf4fcab730f961ea"), looks := true }, kinds := [], alts := [], laidByText := true, laidKinds := [.data, .data, .data, .data, .sentinel, .sentinel, .pinned], laidTests := true, laidLooks := .later }
def ReadBehindCardSaid : Prop := Claim7.holds Tryz.pinned (.plain (OpenSpec.ofChange readBehindSpec)) readBehindCard

/-- THE TIED CARD OF 'copyistlaw05.ReadAll'. -/
def readAllCard : Claim7 := { stood := { row := readAllRow, standIns := [], harness := (true, "ce818bc6a0c74ee49c5e253b0ed647f385b213d51d3fd947cf4fcab730f961ea"), looks := true }, kinds := [], alts := [], laidByText := true, laidKinds := [.data, .data, .data, .data, .sentinel, .sentinel, .pinned], laidTests := true, laidLooks := .later }
def ReadAllCardSaid : Prop := Claim7.holds Tryz.pinned (.plain (OpenSpec.ofChange readAllSpec)) readAllCard

/-- THE TIED CARD OF 'copyistlaw05.ReadInts'. -/
def readIntsCard : Claim7 := { stood := { row := readIntsRow, standIns := [], harness := (true, "ce818bc6a0c74ee49c5e253b0ed647f385b213d51d3fd947cf4fcab730f961ea"), looks := true }, kinds := [], alts := [], laidByText := true, laidKinds := [.data, .data, .data, .data, .sentinel, .sentinel, .pinned], laidTests := true, laidLooks := .later }
def ReadIntsCardSaid : Prop := Claim7.holds Tryz.pinned (.plain (OpenSpec.ofChange readIntsSpec)) readIntsCard

/-- THE TIED CARD OF 'copyistlaw05.ReadStrings'. -/
def readStringsCard : Claim7 := { stood := { row := readStringsRow, standIns := [], harness := (true, "ce818bc6a0c74ee49c5e253b0ed647f385b213d51d3fd947cf4fcab730f961ea"), looks := true }, kinds := [], alts := [], laidByText := true, laidKinds := [.data, .data, .data, .data, .sentinel, .sentinel, .pinned], laidTests := true, laidLooks := .later }
def ReadStringsCardSaid : Prop := Claim7.holds Tryz.pinned (.plain (OpenSpec.ofChange readStringsSpec)) readStringsCard

/-- THE TIED CARD OF 'copyistlaw05.ReadDeep'. -/
def readDeepCard : Claim7 := { stood := { row := readDeepRow, standIns := [], harness := (true, "ce818bc6a0c74ee49c5e253b0ed647f385b213d51d3fd947cf4fcab730f961ea"), looks := true }, kinds := [], alts := [], laidByText := true, laidKinds := [.data, .data, .data, .data, .sentinel, .sentinel, .pinned], laidTests := true, laidLooks := .later }
def ReadDeepCardSaid : Prop := Claim7.holds Tryz.pinned (.plain (OpenSpec.ofChange readDeepSpec)) readDeepCard

/-- THE TIED CARD OF 'copyistlaw07.ListsNames'. -/
def listsNamesCard : Claim7 := { stood := { row := listsNamesRow, standIns := [], harness := (true, "ce818bc6a0c74ee49c5e253b0ed647f385b213d51d3fd947cf4fcab730f961ea"), looks := true }, kinds := [], alts := [], laidByText := true, laidKinds := [.data, .data, .data, .data, .sentinel, .sentinel, .pinned], laidTests := true, laidLooks := .later }
def ListsNamesCardSaid : Prop := Claim7.holds Tryz.pinned (.plain (OpenSpec.ofChange listsNamesSpec)) listsNamesCard

/-- THE TIED CARD OF 'copyistlaw07.ListsAlike'. -/
def listsAlikeCard : Claim7 := { stood := { row := listsAlikeRow, standIns := [], harness := (true, "ce818bc6a0c74ee49c5e253b0ed647f385b213d51d3fd947cf4fcab730f961ea"), looks := true }, kinds := [], alts := [], laidByText := true, laidKinds := [.data, .data, .data, .data, .sentinel, .sentinel, .pinned], laidTests := true, laidLooks := .later }
def ListsAlikeCardSaid : Prop := Claim7.holds Tryz.pinned (.plain (OpenSpec.ofChange listsAlikeSpec)) listsAlikeCard

/-- THE TIED CARD OF 'copyistlaw07.ListsKeep'. -/
def listsKeepCard : Claim7 := { stood := { row := listsKeepRow, standIns := [], harness := (true, "ce818bc6a0c74ee49c5e253b0ed647f385b213d51d3fd947cf4fcab730f961ea"), looks := true }, kinds := [], alts := [], laidByText := true, laidKinds := [.data, .data, .data, .data, .sentinel, .sentinel, .pinned], laidTests := true, laidLooks := .later }
def ListsKeepCardSaid : Prop := Claim7.holds Tryz.pinned (.plain (OpenSpec.ofChange listsKeepSpec)) listsKeepCard

/-- THE TIED CARD OF 'copyistlaw07.ListsTaken'. -/
def listsTakenCard : Claim7 := { stood := { row := listsTakenRow, standIns := [], harness := (true, "ce818bc6a0c74ee49c5e253b0ed647f385b213d51d3fd947cf4fcab730f961ea"), looks := true }, kinds := [], alts := [], laidByText := true, laidKinds := [.data, .data, .data, .data, .sentinel, .sentinel, .pinned], laidTests := true, laidLooks := .later }
def ListsTakenCardSaid : Prop := Claim7.holds Tryz.pinned (.plain (OpenSpec.ofChange listsTakenSpec)) listsTakenCard

/-- THE TIED CARD OF 'copyistlaw07.ListsRings'. -/
def listsRingsCard : Claim7 := { stood := { row := listsRingsRow, standIns := [], harness := (true, "ce818bc6a0c74ee49c5e253b0ed647f385b213d51d3fd947cf4fcab730f961ea"), looks := true }, kinds := [], alts := [], laidByText := true, laidKinds := [.data, .data, .data, .data, .sentinel, .sentinel, .pinned], laidTests := true, laidLooks := .later }
def ListsRingsCardSaid : Prop := Claim7.holds Tryz.pinned (.plain (OpenSpec.ofChange listsRingsSpec)) listsRingsCard

/-- THE SECOND FORM's CARD OF 'copyistlaw05.ReadNames'. -/
def readNamesUptoCard : Claim7 := { stood := { row := readNamesUptoRow, standIns := [], harness := (true, "ce818bc6a0c74ee49c5e253b0ed647f385b213d51d3fd947cf4fcab730f961ea"), looks := true }, kinds := [], alts := [], laidByText := true, laidKinds := [.data, .data, .data, .data, .sentinel, .sentinel, .pinned], laidTests := true, laidLooks := .later }
def ReadNamesUptoCardSaid : Prop := Claim7.holds Tryz.pinned (.plain (OpenSpec.upto readNamesSpec)) readNamesUptoCard

/-- THE SECOND FORM's CARD OF 'copyistlaw05.ReadBehind'. -/
def readBehindUptoCard : Claim7 := { stood := { row := readBehindUptoRow, standIns := [], harness := (true, "ce818bc6a0c74ee49c5e253b0ed647f385b213d51d3fd947cf4fcab730f961ea"), looks := true }, kinds := [], alts := [], laidByText := true, laidKinds := [.data, .data, .data, .data, .sentinel, .sentinel, .pinned], laidTests := true, laidLooks := .later }
def ReadBehindUptoCardSaid : Prop := Claim7.holds Tryz.pinned (.plain (OpenSpec.upto readBehindSpec)) readBehindUptoCard

/-- THE SECOND FORM's CARD OF 'copyistlaw05.ReadAll'. -/
def readAllUptoCard : Claim7 := { stood := { row := readAllUptoRow, standIns := [], harness := (true, "ce818bc6a0c74ee49c5e253b0ed647f385b213d51d3fd947cf4fcab730f961ea"), looks := true }, kinds := [], alts := [], laidByText := true, laidKinds := [.data, .data, .data, .data, .sentinel, .sentinel, .pinned], laidTests := true, laidLooks := .later }
def ReadAllUptoCardSaid : Prop := Claim7.holds Tryz.pinned (.plain (OpenSpec.upto readAllSpec)) readAllUptoCard

/-- THE SECOND FORM's CARD OF 'copyistlaw05.ReadInts'. -/
def readIntsUptoCard : Claim7 := { stood := { row := readIntsUptoRow, standIns := [], harness := (true, "ce818bc6a0c74ee49c5e253b0ed647f385b213d51d3fd947cf4fcab730f961ea"), looks := true }, kinds := [], alts := [], laidByText := true, laidKinds := [.data, .data, .data, .data, .sentinel, .sentinel, .pinned], laidTests := true, laidLooks := .later }
def ReadIntsUptoCardSaid : Prop := Claim7.holds Tryz.pinned (.plain (OpenSpec.upto readIntsSpec)) readIntsUptoCard

/-- THE SECOND FORM's CARD OF 'copyistlaw05.ReadStrings'. -/
def readStringsUptoCard : Claim7 := { stood := { row := readStringsUptoRow, standIns := [], harness := (true, "ce818bc6a0c74ee49c5e253b0ed647f385b213d51d3fd947cf4fcab730f961ea"), looks := true }, kinds := [], alts := [], laidByText := true, laidKinds := [.data, .data, .data, .data, .sentinel, .sentinel, .pinned], laidTests := true, laidLooks := .later }
def ReadStringsUptoCardSaid : Prop := Claim7.holds Tryz.pinned (.plain (OpenSpec.upto readStringsSpec)) readStringsUptoCard

/-- THE SECOND FORM's CARD OF 'copyistlaw05.ReadDeep'. -/
def readDeepUptoCard : Claim7 := { stood := { row := readDeepUptoRow, standIns := [], harness := (true, "ce818bc6a0c74ee49c5e253b0ed647f385b213d51d3fd947cf4fcab730f961ea"), looks := true }, kinds := [], alts := [], laidByText := true, laidKinds := [.data, .data, .data, .data, .sentinel, .sentinel, .pinned], laidTests := true, laidLooks := .later }
def ReadDeepUptoCardSaid : Prop := Claim7.holds Tryz.pinned (.plain (OpenSpec.upto readDeepSpec)) readDeepUptoCard

/-- THE SECOND FORM's CARD OF 'copyistlaw07.ListsNames'. -/
def listsNamesUptoCard : Claim7 := { stood := { row := listsNamesUptoRow, standIns := [], harness := (true, "ce818bc6a0c74ee49c5e253b0ed647f385b213d51d3fd947cf4fcab730f961ea"), looks := true }, kinds := [], alts := [], laidByText := true, laidKinds := [.data, .data, .data, .data, .sentinel, .sentinel, .pinned], laidTests := true, laidLooks := .later }
def ListsNamesUptoCardSaid : Prop := Claim7.holds Tryz.pinned (.plain (OpenSpec.upto listsNamesSpec)) listsNamesUptoCard

/-- THE SECOND FORM's CARD OF 'copyistlaw07.ListsAlike'. -/
def listsAlikeUptoCard : Claim7 := { stood := { row := listsAlikeUptoRow, standIns := [], harness := (true, "ce818bc6a0c74ee49c5e253b0ed647f385b213d51d3fd947cf4fcab730f961ea"), looks := true }, kinds := [], alts := [], laidByText := true, laidKinds := [.data, .data, .data, .data, .sentinel, .sentinel, .pinned], laidTests := true, laidLooks := .later }
def ListsAlikeUptoCardSaid : Prop := Claim7.holds Tryz.pinned (.plain (OpenSpec.upto listsAlikeSpec)) listsAlikeUptoCard

/-- THE SECOND FORM's CARD OF 'copyistlaw07.ListsKeep'. -/
def listsKeepUptoCard : Claim7 := { stood := { row := listsKeepUptoRow, standIns := [], harness := (true, "ce818bc6a0c74ee49c5e253b0ed647f385b213d51d3fd947cf4fcab730f961ea"), looks := true }, kinds := [], alts := [], laidByText := true, laidKinds := [.data, .data, .data, .data, .sentinel, .sentinel, .pinned], laidTests := true, laidLooks := .later }
def ListsKeepUptoCardSaid : Prop := Claim7.holds Tryz.pinned (.plain (OpenSpec.upto listsKeepSpec)) listsKeepUptoCard

/-- THE SECOND FORM's CARD OF 'copyistlaw07.ListsTaken'. -/
def listsTakenUptoCard : Claim7 := { stood := { row := listsTakenUptoRow, standIns := [], harness := (true, "ce818bc6a0c74ee49c5e253b0ed647f385b213d51d3fd947cf4fcab730f961ea"), looks := true }, kinds := [], alts := [], laidByText := true, laidKinds := [.data, .data, .data, .data, .sentinel, .sentinel, .pinned], laidTests := true, laidLooks := .later }
def ListsTakenUptoCardSaid : Prop := Claim7.holds Tryz.pinned (.plain (OpenSpec.upto listsTakenSpec)) listsTakenUptoCard

/-- THE SECOND FORM's CARD OF 'copyistlaw07.ListsRings'. -/
def listsRingsUptoCard : Claim7 := { stood := { row := listsRingsUptoRow, standIns := [], harness := (true, "ce818bc6a0c74ee49c5e253b0ed647f385b213d51d3fd947cf4fcab730f961ea"), looks := true }, kinds := [], alts := [], laidByText := true, laidKinds := [.data, .data, .data, .data, .sentinel, .sentinel, .pinned], laidTests := true, laidLooks := .later }
def ListsRingsUptoCardSaid : Prop := Claim7.holds Tryz.pinned (.plain (OpenSpec.upto listsRingsSpec)) listsRingsUptoCard
end Rows
end Go.Proofs.YtlibdhnlmekmhaaGreatDoor
