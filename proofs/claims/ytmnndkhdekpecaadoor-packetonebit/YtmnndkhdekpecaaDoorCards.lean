/-
  DERIVED. GIVEN WITH THE SEED: THE CARDS: each row of YtmnndkhdekpecaaDoorRows.lean that lists a variable, with what it lists TIED to the program's text (the seventh form; the later family's looks); each row that meets fmt, with fmt's text TOLD by the authors' own Lean function (tested against real Go, not proved from fmt's source: count such statements apart). THE CARD IS WHAT COUNTS. Prove the row's statement (the work); the ties are given (YtmnndkhdekpecaaDoorTie.lean); close each card by the builder's one call (the guide's Derived/Test/ToyasCard.lean, 'card_holds'). Laid BY PROGRAM, IN A SANDBOX (cutbox-door.mjs). By AI agents, Wed Nov 11 2026. No macro, syntax, notation, axiom, sorry.
-/
import Derived.Test.YtmnndkhdekpecaaDoorRows
import GoSem.ClaimSeven
namespace Go.Proofs.YtmnndkhdekpecaaDoor
namespace Rows

/-- THE TIED CARD OF 'ropewalklaw07.PacketOneBit'. -/
def packetOneBitCard : Claim7 := { stood := { row := packetOneBitRow, standIns := [], harness := (true, "e838025b866738579f626f40dd611c5abf516d1ae4fcfc06c9dea3f48facc96f"), looks := true }, kinds := [], alts := [], laidByText := true, laidKinds := [.data], laidTests := true, laidLooks := .later }
def PacketOneBitCardSaid : Prop := Claim7.holds Tryd.pinned (.plain (OpenSpec.ofChange packetOneBitSpec)) packetOneBitCard

/-- THE SECOND FORM's CARD OF 'ropewalklaw07.PacketOneBit'. -/
def packetOneBitUptoCard : Claim7 := { stood := { row := packetOneBitUptoRow, standIns := [], harness := (true, "e838025b866738579f626f40dd611c5abf516d1ae4fcfc06c9dea3f48facc96f"), looks := true }, kinds := [], alts := [], laidByText := true, laidKinds := [.data], laidTests := true, laidLooks := .later }
def PacketOneBitUptoCardSaid : Prop := Claim7.holds Tryd.pinned (.plain (OpenSpec.upto packetOneBitSpec)) packetOneBitUptoCard
end Rows
end Go.Proofs.YtmnndkhdekpecaaDoor
