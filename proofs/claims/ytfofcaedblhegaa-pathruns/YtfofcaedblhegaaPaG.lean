/-
  Paths: both, and the care that came in.
  Conditions: as at each lemma.
-/
import Derived.Test.YtfofcaedblhegaaPaT
import Derived.Test.YtfofcaedblhegaaPaE
namespace Go.Proofs.Ytfofcaedblhegaa.Pa
open Go.ChangeShapes Go.WideShapes Go.ChangeAt Go.RowKit
open Ba (hidden Has Only)
open Ow (Own)
set_option linter.unusedVariables false

theorem nrm_new (mx fl pa n : Int) : nrm (newS mx fl pa n) = newS mx fl pa n := rfl
/-- behind both News -/
theorem both {w w0 w1 w2 : World} {b c : Nat} {s : S} {L : List Ow.Bk} (h : Own w w0 L) (h1 : Own w0 w1 [(b, cp s, 56)]) (h2 : Own w1 w2 [(c, cr s, 66)]) : Own w w2 (L2 b c s s) := (own_join (own_join h h1) h2).sub (by simp)
end Go.Proofs.Ytfofcaedblhegaa.Pa
