/-
  What each function of package serial and of the document's answer for it returns, for numbers within their width, and that it leaves memory as it was.
  Conditions: the numbers lie within 32 (16) bits.
-/
import Derived.Test.YtdifceikfnnfeaaDoorRows
import Derived.WalkKit
import Derived.ProofKit
import Derived.OpenShut
namespace Go.Proofs.YtdifceikfnnfeaaDoor.Ser
open Go.ChangeShapes Go.WideShapes Go.ChangeAt Go.RowKit
set_option linter.unusedVariables false

/-- the distance from a to b, of so many numbers -/
def dist (all a b : Int) : Int := if (b - a) % all < all / 2 then (b - a) % all else (b - a) % all - all

theorem b32 {n : Int} (h : (Lit.int .u32 n).wf = true) : 0 ≤ n ∧ n < 4294967296 := by
  have := bounds_u32 h
  omega
theorem b16 {n : Int} (h : (Lit.int .u16 n).wf = true) : 0 ≤ n ∧ n < 65536 := by
  have := bounds_u16 h
  omega

theorem dist32_bounds (a b : Int) : -2147483648 ≤ dist 4294967296 a b ∧ dist 4294967296 a b < 2147483648 := by
  unfold dist
  split <;> omega
theorem dist16_bounds (a b : Int) : -32768 ≤ dist 65536 a b ∧ dist 65536 a b < 32768 := by
  unfold dist
  split <;> omega

theorem fin_int {k : IntKind} {x y : Int} {w : World} (h : x = y) : Ending.returned (.int k x) = Ending.returned (.int k y) ∧ w = w := ⟨by rw [h], rfl⟩
theorem fin_bool {x y : Bool} {w : World} (h : x = y) : Ending.returned (.bool x) = Ending.returned (.bool y) ∧ w = w := ⟨by rw [h], rfl⟩

theorem add (a n : Int) (w : World) :
    Calls Tryd.prog 83 #[.int .u32 a, .int .u32 n] w fun e w' => e = .returned (.int .u32 ((a + n) % 4294967296)) ∧ w = w' := by
  go_enter Tryd.func83, Tryd.ntmps83
  go_wp2
  go_ret
  exact fin_int rfl

theorem radd (a n : Int) (ha : 0 ≤ a ∧ a < 4294967296) (hn : 0 ≤ n ∧ n < 4294967296) (w : World) :
    Calls Tryd.prog 22 #[.int .u32 a, .int .u32 n] w fun e w' => e = .returned (.int .u32 ((a + n) % 4294967296)) ∧ w = w' := by
  go_enter Tryd.func22, Tryd.ntmps22
  go_wp2
  go_ret
  exact fin_int rfl

theorem distance (a b : Int) (ha : 0 ≤ a ∧ a < 4294967296) (hb : 0 ≤ b ∧ b < 4294967296) (w : World) :
    Calls Tryd.prog 84 #[.int .u32 a, .int .u32 b] w fun e w' => e = .returned (.int .i64 (dist 4294967296 a b)) ∧ w = w' := by
  have hx : bits BinOp.xor IntKind.u32 IntKind.u32.max 0 = 4294967295 := by decide +kernel
  have hs : IntKind.u32.signed = false := rfl
  go_enter Tryd.func84, Tryd.ntmps84
  go_wp2
  all_goals go_ret
  all_goals refine fin_int ?_
  all_goals unfold dist
  all_goals (split <;> omega)

theorem diff (a b : Int) (ha : 0 ≤ a ∧ a < 4294967296) (hb : 0 ≤ b ∧ b < 4294967296) (w : World) :
    Calls Tryd.prog 79 #[.int .u32 a, .int .u32 b] w fun e w' => e = .returned (.int .i64 (dist 4294967296 a b)) ∧ w = w' := by
  go_enter Tryd.func79, Tryd.ntmps79
  go_wp2_with fail
  refine (distance a b ha hb _).mono ?_
  rintro e w' ⟨rfl, rfl⟩
  go_wp2
  go_ret
  exact fin_int rfl

theorem rdiff0 (all a b : Int) (hall : all = 4294967296 ∨ all = 65536) (ha : 0 ≤ a ∧ a < 4294967296) (hb : 0 ≤ b ∧ b < 4294967296) (w : World) :
    Calls Tryd.prog 54 #[.int .i64 a, .int .i64 b, .int .i64 all] w fun e w' => e = .returned (.int .i64 (dist all a b)) ∧ w = w' := by
  rcases hall with rfl | rfl
  · by_cases h : a ≤ b
    · go_enter Tryd.func54, Tryd.ntmps54
      go_wp2
      all_goals go_ret
      all_goals refine fin_int ?_
      all_goals unfold dist
      all_goals (split <;> omega)
    · have h1 : (b - a).tmod 4294967296 = -((a - b) % 4294967296) := by
        rw [show b - a = -(a - b) by omega, Int.neg_tmod, Int.tmod_eq_emod_of_nonneg (by omega)]
      go_enter Tryd.func54, Tryd.ntmps54
      go_wp2
      all_goals go_ret
      all_goals refine fin_int ?_
      all_goals unfold dist
      all_goals (split <;> omega)
  · by_cases h : a ≤ b
    · go_enter Tryd.func54, Tryd.ntmps54
      go_wp2
      all_goals go_ret
      all_goals refine fin_int ?_
      all_goals unfold dist
      all_goals (split <;> omega)
    · have h1 : (b - a).tmod 65536 = -((a - b) % 65536) := by
        rw [show b - a = -(a - b) by omega, Int.neg_tmod, Int.tmod_eq_emod_of_nonneg (by omega)]
      go_enter Tryd.func54, Tryd.ntmps54
      go_wp2
      all_goals go_ret
      all_goals refine fin_int ?_
      all_goals unfold dist
      all_goals (split <;> omega)

theorem rdiff (a b : Int) (ha : 0 ≤ a ∧ a < 4294967296) (hb : 0 ≤ b ∧ b < 4294967296) (w : World) :
    Calls Tryd.prog 29 #[.int .u32 a, .int .u32 b] w fun e w' => e = .returned (.int .i64 (dist 4294967296 a b)) ∧ w = w' := by
  have hd := dist32_bounds a b
  go_enter Tryd.func29, Tryd.ntmps29
  go_wp2_with fail
  refine (rdiff0 4294967296 a b (.inl rfl) ha hb _).mono ?_
  rintro e w' ⟨rfl, rfl⟩
  go_wp2
  go_ret
  exact fin_int rfl

theorem rless (a b : Int) (ha : 0 ≤ a ∧ a < 4294967296) (hb : 0 ≤ b ∧ b < 4294967296) (w : World) :
    Calls Tryd.prog 28 #[.int .u32 a, .int .u32 b] w fun e w' => e = .returned (.bool (decide (0 < dist 4294967296 a b))) ∧ w = w' := by
  go_enter Tryd.func28, Tryd.ntmps28
  go_wp2_with fail
  refine (rdiff a b ha hb _).mono ?_
  rintro e w' ⟨rfl, rfl⟩
  go_wp2
  go_ret
  exact fin_bool rfl

end Go.Proofs.YtdifceikfnnfeaaDoor.Ser
