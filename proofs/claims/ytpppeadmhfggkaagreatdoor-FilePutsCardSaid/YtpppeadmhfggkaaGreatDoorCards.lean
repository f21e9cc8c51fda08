/-
  DERIVED. GIVEN WITH THE SEED: THE CARDS: each row of YtpppeadmhfggkaaGreatDoorRows.lean that lists a variable, with what it lists TIED to the program's text (the seventh form; the later family's looks); each row that meets fmt, with fmt's text TOLD by the authors' own Lean function (tested against real Go, not proved from fmt's source: count such statements apart). THE CARD IS WHAT COUNTS. Prove the row's statement (the work); the ties are given (YtpppeadmhfggkaaGreatDoorTie.lean); close each card by the builder's one call (the guide's Derived/Test/ToyasCard.lean, 'card_holds'). Laid BY PROGRAM, IN A SANDBOX (cutbox-door.mjs). By AI agents, Wed Nov 11 2026. No macro, syntax, notation, axiom, sorry.
-/
import Derived.Test.YtpppeadmhfggkaaGreatDoorRows
import GoSem.ClaimSeven
namespace Go.Proofs.YtpppeadmhfggkaaGreatDoor
namespace Rows

/-- THE TIED CARD OF 'rovinglaw05.FileDoes'. -/
def fileDoesCard : Claim7 := { stood := { row := fileDoesRow, standIns := [], harness := (true, "18682f03d34e1aa5d67789115478b69aa986ad77ebe63ab76f1f8652ca7abb98"), looks := true }, kinds := [], alts := [], laidByText := true, laidKinds := [.data, .data, .data, .handle], laidTests := true, laidLooks := .later }
def FileDoesCardSaid : Prop := Claim7.holds Tryz.pinned (.plain (OpenSpec.ofChange fileDoesSpec)) fileDoesCard

/-- THE TIED CARD OF 'rovinglaw05.FilePuts'. -/
def filePutsCard : Claim7 := { stood := { row := filePutsRow, standIns := [], harness := (true, "18682f03d34e1aa5d67789115478b69aa986ad77ebe63ab76f1f8652ca7abb98"), looks := true }, kinds := [], alts := [], laidByText := true, laidKinds := [.data, .data, .data, .handle], laidTests := true, laidLooks := .later }
def FilePutsCardSaid : Prop := Claim7.holds Tryz.pinned (.plain (OpenSpec.ofChange filePutsSpec)) filePutsCard

/-- THE SECOND FORM's CARD OF 'rovinglaw05.FileDoes'. -/
def fileDoesUptoCard : Claim7 := { stood := { row := fileDoesUptoRow, standIns := [], harness := (true, "18682f03d34e1aa5d67789115478b69aa986ad77ebe63ab76f1f8652ca7abb98"), looks := true }, kinds := [], alts := [], laidByText := true, laidKinds := [.data, .data, .data, .handle], laidTests := true, laidLooks := .later }
def FileDoesUptoCardSaid : Prop := Claim7.holds Tryz.pinned (.plain (OpenSpec.upto fileDoesSpec)) fileDoesUptoCard

/-- THE SECOND FORM's CARD OF 'rovinglaw05.FilePuts'. -/
def filePutsUptoCard : Claim7 := { stood := { row := filePutsUptoRow, standIns := [], harness := (true, "18682f03d34e1aa5d67789115478b69aa986ad77ebe63ab76f1f8652ca7abb98"), looks := true }, kinds := [], alts := [], laidByText := true, laidKinds := [.data, .data, .data, .handle], laidTests := true, laidLooks := .later }
def FilePutsUptoCardSaid : Prop := Claim7.holds Tryz.pinned (.plain (OpenSpec.upto filePutsSpec)) filePutsUptoCard
end Rows
end Go.Proofs.YtpppeadmhfggkaaGreatDoor
