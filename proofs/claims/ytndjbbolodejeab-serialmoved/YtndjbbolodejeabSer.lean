/-
  What each function of package serial and of the document's answer for it returns, for numbers within their width, and that it leaves memory as it was.
  Conditions: the numbers lie within 32 (16) bits.
-/
import Derived.Test.YtndjbbolodejeabRows
import Derived.WalkKit
import Derived.ProofKit
import Derived.OpenShut
namespace Go.Proofs.Ytndjbbolodejeab.Ser
open Go.ChangeShapes Go.WideShapes Go.ChangeAt Go.RowKit
set_option linter.unusedVariables false

/-- the distance from a to b, of so many numbers -/
def dist (all a b : Int) : Int := if (b - a) % all < all / 2 then (b - a) % all else (b - a) % all - all

theorem b32 {n : Int} (h : (Lit.int .u32 n).wf = true) : 0 ≤ n ∧ n < 4294967296 := by
  have := bounds_u32 h
  omega
theorem b16 {n : Int} (h : (Lit.int .u16 n).wf = true) : 0 ≤ n ∧ n < 65536 := by
  have := bounds_u16 h
  omega

theorem dist32_bounds (a b : Int) : -2147483648 ≤ dist 4294967296 a b ∧ dist 4294967296 a b < 2147483648 := by
  unfold dist
  split <;> omega
theorem dist16_bounds (a b : Int) : -32768 ≤ dist 65536 a b ∧ dist 65536 a b < 32768 := by
  unfold dist
  split <;> omega

theorem fin_int {k : IntKind} {x y : Int} {w : World} (h : x = y) : Ending.returned (.int k x) = Ending.returned (.int k y) ∧ w = w := ⟨by rw [h], rfl⟩
theorem fin_bool {x y : Bool} {w : World} (h : x = y) : Ending.returned (.bool x) = Ending.returned (.bool y) ∧ w = w := ⟨by rw [h], rfl⟩

theorem add (a n : Int) (w : World) :
    Calls Try.prog 7 #[.int .u32 a, .int .u32 n] w fun e w' => e = .returned (.int .u32 ((a + n) % 4294967296)) ∧ w = w' := by
  go_enter Try.func7, Try.ntmps7
  go_wp2
  go_ret
  exact fin_int rfl

theorem distance (a b : Int) (ha : 0 ≤ a ∧ a < 4294967296) (hb : 0 ≤ b ∧ b < 4294967296) (w : World) :
    Calls Try.prog 11 #[.int .u32 a, .int .u32 b] w fun e w' => e = .returned (.int .i64 (dist 4294967296 a b)) ∧ w = w' := by
  have hx : bits BinOp.xor IntKind.u32 IntKind.u32.max 0 = 4294967295 := by decide +kernel
  have hs : IntKind.u32.signed = false := rfl
  go_enter Try.func11, Try.ntmps11
  go_wp2
  all_goals go_ret
  all_goals refine fin_int ?_
  all_goals unfold dist
  all_goals (split <;> omega)

theorem ahead (a b : Int) (ha : 0 ≤ a ∧ a < 4294967296) (hb : 0 ≤ b ∧ b < 4294967296) (w : World) :
    Calls Try.prog 9 #[.int .u32 a, .int .u32 b] w fun e w' => e = .returned (.bool (decide (0 < dist 4294967296 a b))) ∧ w = w' := by
  go_enter Try.func9, Try.ntmps9
  go_wp2_with fail
  refine (distance a b ha hb _).mono ?_
  rintro e w' ⟨rfl, rfl⟩
  go_wp2
  go_ret
  exact fin_bool rfl

theorem less (a b : Int) (ha : 0 ≤ a ∧ a < 4294967296) (hb : 0 ≤ b ∧ b < 4294967296) (w : World) :
    Calls Try.prog 6 #[.int .u32 a, .int .u32 b] w fun e w' => e = .returned (.bool (decide (0 < dist 4294967296 a b))) ∧ w = w' := by
  go_enter Try.func6, Try.ntmps6
  go_wp2_with fail
  refine (ahead a b ha hb _).mono ?_
  rintro e w' ⟨rfl, rfl⟩
  go_wp2
  go_ret
  exact fin_bool rfl

theorem diff (a b : Int) (ha : 0 ≤ a ∧ a < 4294967296) (hb : 0 ≤ b ∧ b < 4294967296) (w : World) :
    Calls Try.prog 8 #[.int .u32 a, .int .u32 b] w fun e w' => e = .returned (.int .i64 (dist 4294967296 a b)) ∧ w = w' := by
  go_enter Try.func8, Try.ntmps8
  go_wp2_with fail
  refine (distance a b ha hb _).mono ?_
  rintro e w' ⟨rfl, rfl⟩
  go_wp2
  go_ret
  exact fin_int rfl

end Go.Proofs.Ytndjbbolodejeab.Ser
