/-
  DERIVED. GIVEN WITH THE SEED: THE CARDS: each row of YtfcifblbapadpaaDoorRows.lean that lists a variable, with what it lists TIED to the program's text (the seventh form; the later family's looks); each row that meets fmt, with fmt's text TOLD by the authors' own Lean function (tested against real Go, not proved from fmt's source: count such statements apart). THE CARD IS WHAT COUNTS. Prove the row's statement (the work); the ties are given (YtfcifblbapadpaaDoorTie.lean); close each card by the builder's one call (the guide's Derived/Test/ToyasCard.lean, 'card_holds'). Laid BY PROGRAM, IN A SANDBOX (cutbox-door.mjs). By AI agents, Wed Nov 11 2026. No macro, syntax, notation, axiom, sorry.
-/
import Derived.Test.YtfcifblbapadpaaDoorRows
import GoSem.ClaimSeven
namespace Go.Proofs.YtfcifblbapadpaaDoor
namespace Rows

/-- THE TIED CARD OF 'rovinglaw08.RequestFirst'. -/
def requestFirstCard : Claim7 := { stood := { row := requestFirstRow, standIns := [], harness := (true, "bfdb86a7b0e14f5c6495da3a02cbcf8027775addff2c600eca847821d255570a"), looks := true }, kinds := [], alts := [], laidByText := true, laidKinds := [.handle], laidTests := true, laidLooks := .later }
def RequestFirstCardSaid : Prop := Claim7.holds Tryd.pinned (.plain (OpenSpec.ofChange requestFirstSpec)) requestFirstCard

/-- THE TIED CARD OF 'rovinglaw08.RequestByte'. -/
def requestByteCard : Claim7 := { stood := { row := requestByteRow, standIns := [], harness := (true, "bfdb86a7b0e14f5c6495da3a02cbcf8027775addff2c600eca847821d255570a"), looks := true }, kinds := [], alts := [], laidByText := true, laidKinds := [.handle], laidTests := true, laidLooks := .later }
def RequestByteCardSaid : Prop := Claim7.holds Tryd.pinned (.plain (OpenSpec.ofChange requestByteSpec)) requestByteCard

/-- THE SECOND FORM's CARD OF 'rovinglaw08.RequestFirst'. -/
def requestFirstUptoCard : Claim7 := { stood := { row := requestFirstUptoRow, standIns := [], harness := (true, "bfdb86a7b0e14f5c6495da3a02cbcf8027775addff2c600eca847821d255570a"), looks := true }, kinds := [], alts := [], laidByText := true, laidKinds := [.handle], laidTests := true, laidLooks := .later }
def RequestFirstUptoCardSaid : Prop := Claim7.holds Tryd.pinned (.plain (OpenSpec.upto requestFirstSpec)) requestFirstUptoCard

/-- THE SECOND FORM's CARD OF 'rovinglaw08.RequestByte'. -/
def requestByteUptoCard : Claim7 := { stood := { row := requestByteUptoRow, standIns := [], harness := (true, "bfdb86a7b0e14f5c6495da3a02cbcf8027775addff2c600eca847821d255570a"), looks := true }, kinds := [], alts := [], laidByText := true, laidKinds := [.handle], laidTests := true, laidLooks := .later }
def RequestByteUptoCardSaid : Prop := Claim7.holds Tryd.pinned (.plain (OpenSpec.upto requestByteSpec)) requestByteUptoCard
end Rows
end Go.Proofs.YtfcifblbapadpaaDoor
