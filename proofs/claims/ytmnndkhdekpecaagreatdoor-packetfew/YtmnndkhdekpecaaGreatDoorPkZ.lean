/-
  Small laws for the bundles' statements.
  Conditions: as at each lemma.
-/
import Derived.Test.YtmnndkhdekpecaaGreatDoorPkY
import Derived.Test.YtmnndkhdekpecaaGreatDoorPkX
import Derived.Test.YtmnndkhdekpecaaGreatDoorPkG
import Derived.Test.YtmnndkhdekpecaaGreatDoorPkH
import Derived.Test.YtmnndkhdekpecaaGreatDoorPkArgs
namespace Go.Proofs.YtmnndkhdekpecaaGreatDoor.Pkt
open Go.ChangeShapes Go.WideShapes Go.ChangeAt Go.RowKit
open Chu (Ck Cks)
set_option linter.unusedVariables false
theorem StM.bel {X : Type} {U w : World} {cs : List Nat} {x : X} {L : Nat → Bool} (h : StM cs (fun _ _ u => Below U.heap.size U u) x L w) : Below U.heap.size U w := by
  obtain ⟨k, _, _, h⟩ := h
  exact h
theorem cks_zero {base : Nat} {w : World} {a : Option Addr} {n : Nat} {l : List Ck} (h : Cks base w a n l) : Cks 0 w a n l := ⟨h.1, h.2.1, fun c hc => chk_mono (h.2.2.1 c hc) (Nat.zero_le _), h.2.2.2.mono (Nat.zero_le _)⟩
end Go.Proofs.YtmnndkhdekpecaaGreatDoor.Pkt
