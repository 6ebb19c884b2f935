/-
  Windows: one that is known.
  Conditions: none.
-/
import Derived.Test.YtaaghlgleofcgaaCwF
namespace Go.Proofs.Ytaaghlgleofcgaa.Cw
open Go.ChangeShapes Go.WideShapes Go.ChangeAt Go.RowKit
open Ba (hidden Has Only)
open Ow (Own)
set_option linter.unusedVariables false

theorem awake (w : World) : Calls Try.prog 12 #[] w fun e w' => e = .returned (.bool true) ∧ Below w.heap.size w w' := by
  have S := hidden (openX 1000 100000 8000)
  have M := hidden (ackX 4000 8000 0 1000 100000 1000 true true)
  rw [show tr (opV 1000 100000 8000) = .tuple #[.agg #[.int .i64 4000, .int .i64 8000, .int .i64 0, .int .i64 1000, .int .i64 100000], .int .i64 0] by kernel_rfl] at S
  rw [show tr (ackV 4000 8000 0 1000 100000 1000 true true) = .tuple #[.agg #[.int .i64 5000, .int .i64 8000, .int .i64 0, .int .i64 1000, .int .i64 100000], .int .i64 0] by kernel_rfl] at M
  go_enter Try.func12, Try.ntmps12
  go_wp2_with fail
  refine Calls.mono (S.out _) ?_
  rintro e w1 ⟨rfl, hB1⟩
  have O1 := hidden (((Own.refl w).later hB1).alloc #[.int .i64 4000, .int .i64 8000, .int .i64 0, .int .i64 1000, .int .i64 100000] 23)
  clear hB1 S
  go_wp2_with fail
  refine Calls.mono (M.out _) ?_
  rintro e w2 ⟨rfl, hB2⟩
  have P2 := hidden (O1.out.later hB2)
  obtain ⟨c0, c1, c2, c3, c4⟩ := cells5 P2.out (.head _)
  have hl := P2.out.lt (.head _)
  have HB := hidden P2.out.below
  clear hB2 O1 P2
  go_wp2
  go_ret
  exact ⟨rfl, HB.out.alloc HB.out.size _⟩
end Go.Proofs.Ytaaghlgleofcgaa.Cw
