/-
  DERIVED. GIVEN WITH THE SEED: THE CARDS: each row of YtpppeadmhfggkaaDoorRows.lean that lists a variable, with what it lists TIED to the program's text (the seventh form; the later family's looks); each row that meets fmt, with fmt's text TOLD by the authors' own Lean function (tested against real Go, not proved from fmt's source: count such statements apart). THE CARD IS WHAT COUNTS. Prove the row's statement (the work); the ties are given (YtpppeadmhfggkaaDoorTie.lean); close each card by the builder's one call (the guide's Derived/Test/ToyasCard.lean, 'card_holds'). Laid BY PROGRAM, IN A SANDBOX (cutbox-door.mjs). By AI agents, Wed Nov 11 2026. No macro, syntax, notation, axiom, sorry.
-/
import Derived.Test.YtpppeadmhfggkaaDoorRows
import GoSem.ClaimSeven
namespace Go.Proofs.YtpppeadmhfggkaaDoor
namespace Rows

/-- THE TIED CARD OF 'rovinglaw05.FileLoads'. -/
def fileLoadsCard : Claim7 := { stood := { row := fileLoadsRow, standIns := [], harness := (true, "3e2b230cdd87df93311aa39fd3aac1840a5faa456c1d2ade7a05d243c03b4531"), looks := true }, kinds := [], alts := [], laidByText := true, laidKinds := [.handle], laidTests := true, laidLooks := .later }
def FileLoadsCardSaid : Prop := Claim7.holds Tryd.pinned (.plain (OpenSpec.ofChange fileLoadsSpec)) fileLoadsCard

/-- THE TIED CARD OF 'rovinglaw05.FileCrash'. -/
def fileCrashCard : Claim7 := { stood := { row := fileCrashRow, standIns := [], harness := (true, "3e2b230cdd87df93311aa39fd3aac1840a5faa456c1d2ade7a05d243c03b4531"), looks := true }, kinds := [], alts := [], laidByText := true, laidKinds := [.handle], laidTests := true, laidLooks := .later }
def FileCrashCardSaid : Prop := Claim7.holds Tryd.pinned (.plain (OpenSpec.ofChange fileCrashSpec)) fileCrashCard

/-- THE TIED CARD OF 'rovinglaw05.FileCut'. -/
def fileCutCard : Claim7 := { stood := { row := fileCutRow, standIns := [], harness := (true, "3e2b230cdd87df93311aa39fd3aac1840a5faa456c1d2ade7a05d243c03b4531"), looks := true }, kinds := [], alts := [], laidByText := true, laidKinds := [.handle], laidTests := true, laidLooks := .later }
def FileCutCardSaid : Prop := Claim7.holds Tryd.pinned (.plain (OpenSpec.ofChange fileCutSpec)) fileCutCard

/-- THE TIED CARD OF 'rovinglaw05.FileMends'. -/
def fileMendsCard : Claim7 := { stood := { row := fileMendsRow, standIns := [], harness := (true, "3e2b230cdd87df93311aa39fd3aac1840a5faa456c1d2ade7a05d243c03b4531"), looks := true }, kinds := [], alts := [], laidByText := true, laidKinds := [.handle], laidTests := true, laidLooks := .later }
def FileMendsCardSaid : Prop := Claim7.holds Tryd.pinned (.plain (OpenSpec.ofChange fileMendsSpec)) fileMendsCard

/-- THE SECOND FORM's CARD OF 'rovinglaw05.FileLoads'. -/
def fileLoadsUptoCard : Claim7 := { stood := { row := fileLoadsUptoRow, standIns := [], harness := (true, "3e2b230cdd87df93311aa39fd3aac1840a5faa456c1d2ade7a05d243c03b4531"), looks := true }, kinds := [], alts := [], laidByText := true, laidKinds := [.handle], laidTests := true, laidLooks := .later }
def FileLoadsUptoCardSaid : Prop := Claim7.holds Tryd.pinned (.plain (OpenSpec.upto fileLoadsSpec)) fileLoadsUptoCard

/-- THE SECOND FORM's CARD OF 'rovinglaw05.FileCrash'. -/
def fileCrashUptoCard : Claim7 := { stood := { row := fileCrashUptoRow, standIns := [], harness := (true, "3e2b230cdd87df93311aa39fd3aac1840a5faa456c1d2ade7a05d243c03b4531"), looks := true }, kinds := [], alts := [], laidByText := true, laidKinds := [.handle], laidTests := true, laidLooks := .later }
def FileCrashUptoCardSaid : Prop := Claim7.holds Tryd.pinned (.plain (OpenSpec.upto fileCrashSpec)) fileCrashUptoCard

/-- THE SECOND FORM's CARD OF 'rovinglaw05.FileCut'. -/
def fileCutUptoCard : Claim7 := { stood := { row := fileCutUptoRow, standIns := [], harness := (true, "3e2b230cdd87df93311aa39fd3aac1840a5faa456c1d2ade7a05d243c03b4531"), looks := true }, kinds := [], alts := [], laidByText := true, laidKinds := [.handle], laidTests := true, laidLooks := .later }
def FileCutUptoCardSaid : Prop := Claim7.holds Tryd.pinned (.plain (OpenSpec.upto fileCutSpec)) fileCutUptoCard

/-- THE SECOND FORM's CARD OF 'rovinglaw05.FileMends'. -/
def fileMendsUptoCard : Claim7 := { stood := { row := fileMendsUptoRow, standIns := [], harness := (true, "3e2b230cdd87df93311aa39fd3aac1840a5faa456c1d2ade7a05d243c03b4531"), looks := true }, kinds := [], alts := [], laidByText := true, laidKinds := [.handle], laidTests := true, laidLooks := .later }
def FileMendsUptoCardSaid : Prop := Claim7.holds Tryd.pinned (.plain (OpenSpec.upto fileMendsSpec)) fileMendsUptoCard
end Rows
end Go.Proofs.YtpppeadmhfggkaaDoor
