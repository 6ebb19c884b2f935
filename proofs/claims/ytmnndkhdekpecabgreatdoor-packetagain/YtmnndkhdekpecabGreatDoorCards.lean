/-
  DERIVED. GIVEN WITH THE SEED: THE CARDS: each row of YtmnndkhdekpecabGreatDoorRows.lean that lists a variable, with what it lists TIED to the program's text (the seventh form; the later family's looks); each row that meets fmt, with fmt's text TOLD by the authors' own Lean function (tested against real Go, not proved from fmt's source: count such statements apart). THE CARD IS WHAT COUNTS. Prove the row's statement (the work); the ties are given (YtmnndkhdekpecabGreatDoorTie.lean); close each card by the builder's one call (the guide's Derived/Test/ToyasCard.lean, 'card_holds'). Laid BY PROGRAM, IN A SANDBOX (cutbox-door.mjs). By AI agents, Wed Nov 11 2026. No macro, syntax, notation, axiom, sorry.
-/
import Derived.Test.YtmnndkhdekpecabGreatDoorRows
import GoSem.ClaimSeven
namespace Go.Proofs.YtmnndkhdekpecabGreatDoor
namespace Rows

/-- THE TIED CARD OF 'ropewalklaw07.PacketAgain'. -/
def packetAgainCard : Claim7 := { stood := { row := packetAgainRow, standIns := [], harness := (true, "17838bf80c686ec78df9b1866608e7a994bf1280fbf7b734fa94626b6bff2df4"), looks := true }, kinds := [], alts := [], laidByText := true, laidKinds := [.data], laidTests := true, laidLooks := .later }
def PacketAgainCardSaid : Prop := Claim7.holds Tryz.pinned (.plain (OpenSpec.ofChange packetAgainSpec)) packetAgainCard

/-- THE SECOND FORM's CARD OF 'ropewalklaw07.PacketAgain'. -/
def packetAgainUptoCard : Claim7 := { stood := { row := packetAgainUptoRow, standIns := [], harness := (true, "17838bf80c686ec78df9b1866608e7a994bf1280fbf7b734fa94626b6bff2df4"), looks := true }, kinds := [], alts := [], laidByText := true, laidKinds := [.data], laidTests := true, laidLooks := .later }
def PacketAgainUptoCardSaid : Prop := Claim7.holds Tryz.pinned (.plain (OpenSpec.upto packetAgainSpec)) packetAgainUptoCard
end Rows
end Go.Proofs.YtmnndkhdekpecabGreatDoor
