/-
  What each function of package serial and of the document's answer for it returns, for numbers within their width, and that it leaves memory as it was.
  Conditions: the numbers lie within 32 (16) bits.
-/
import Derived.Test.YtndjbbolodejeaaRows
import Derived.WalkKit
import Derived.ProofKit
import Derived.OpenShut
namespace Go.Proofs.Ytndjbbolodejeaa.Ser
open Go.ChangeShapes Go.WideShapes Go.ChangeAt Go.RowKit
set_option linter.unusedVariables false

/-- the distance from a to b, of so many numbers -/
def dist (all a b : Int) : Int := if (b - a) % all < all / 2 then (b - a) % all else (b - a) % all - all

theorem b32 {n : Int} (h : (Lit.int .u32 n).wf = true) : 0 ≤ n ∧ n < 4294967296 := by
  have := bounds_u32 h
  omega
theorem b16 {n : Int} (h : (Lit.int .u16 n).wf = true) : 0 ≤ n ∧ n < 65536 := by
  have := bounds_u16 h
  omega

theorem dist32_bounds (a b : Int) : -2147483648 ≤ dist 4294967296 a b ∧ dist 4294967296 a b < 2147483648 := by
  unfold dist
  split <;> omega
theorem dist16_bounds (a b : Int) : -32768 ≤ dist 65536 a b ∧ dist 65536 a b < 32768 := by
  unfold dist
  split <;> omega

theorem fin_int {k : IntKind} {x y : Int} {w : World} (h : x = y) : Ending.returned (.int k x) = Ending.returned (.int k y) ∧ w = w := ⟨by rw [h], rfl⟩
theorem fin_bool {x y : Bool} {w : World} (h : x = y) : Ending.returned (.bool x) = Ending.returned (.bool y) ∧ w = w := ⟨by rw [h], rfl⟩

theorem add (a n : Int) (w : World) :
    Calls Try.prog 9 #[.int .u32 a, .int .u32 n] w fun e w' => e = .returned (.int .u32 ((a + n) % 4294967296)) ∧ w = w' := by
  go_enter Try.func9, Try.ntmps9
  go_wp2
  go_ret
  exact fin_int rfl

theorem radd (a n : Int) (ha : 0 ≤ a ∧ a < 4294967296) (hn : 0 ≤ n ∧ n < 4294967296) (w : World) :
    Calls Try.prog 10 #[.int .u32 a, .int .u32 n] w fun e w' => e = .returned (.int .u32 ((a + n) % 4294967296)) ∧ w = w' := by
  go_enter Try.func10, Try.ntmps10
  go_wp2
  go_ret
  exact fin_int rfl

theorem distance (a b : Int) (ha : 0 ≤ a ∧ a < 4294967296) (hb : 0 ≤ b ∧ b < 4294967296) (w : World) :
    Calls Try.prog 27 #[.int .u32 a, .int .u32 b] w fun e w' => e = .returned (.int .i64 (dist 4294967296 a b)) ∧ w = w' := by
  have hx : bits BinOp.xor IntKind.u32 IntKind.u32.max 0 = 4294967295 := by decide +kernel
  have hs : IntKind.u32.signed = false := rfl
  go_enter Try.func27, Try.ntmps27
  go_wp2
  all_goals go_ret
  all_goals refine fin_int ?_
  all_goals unfold dist
  all_goals (split <;> omega)

theorem ahead (a b : Int) (ha : 0 ≤ a ∧ a < 4294967296) (hb : 0 ≤ b ∧ b < 4294967296) (w : World) :
    Calls Try.prog 26 #[.int .u32 a, .int .u32 b] w fun e w' => e = .returned (.bool (decide (0 < dist 4294967296 a b))) ∧ w = w' := by
  go_enter Try.func26, Try.ntmps26
  go_wp2_with fail
  refine (distance a b ha hb _).mono ?_
  rintro e w' ⟨rfl, rfl⟩
  go_wp2
  go_ret
  exact fin_bool rfl

theorem less (a b : Int) (ha : 0 ≤ a ∧ a < 4294967296) (hb : 0 ≤ b ∧ b < 4294967296) (w : World) :
    Calls Try.prog 11 #[.int .u32 a, .int .u32 b] w fun e w' => e = .returned (.bool (decide (0 < dist 4294967296 a b))) ∧ w = w' := by
  go_enter Try.func11, Try.ntmps11
  go_wp2_with fail
  refine (ahead a b ha hb _).mono ?_
  rintro e w' ⟨rfl, rfl⟩
  go_wp2
  go_ret
  exact fin_bool rfl

theorem diff (a b : Int) (ha : 0 ≤ a ∧ a < 4294967296) (hb : 0 ≤ b ∧ b < 4294967296) (w : World) :
    Calls Try.prog 13 #[.int .u32 a, .int .u32 b] w fun e w' => e = .returned (.int .i64 (dist 4294967296 a b)) ∧ w = w' := by
  go_enter Try.func13, Try.ntmps13
  go_wp2_with fail
  refine (distance a b ha hb _).mono ?_
  rintro e w' ⟨rfl, rfl⟩
  go_wp2
  go_ret
  exact fin_int rfl

theorem rdiff0 (all a b : Int) (hall : all = 4294967296 ∨ all = 65536) (ha : 0 ≤ a ∧ a < 4294967296) (hb : 0 ≤ b ∧ b < 4294967296) (w : World) :
    Calls Try.prog 28 #[.int .i64 a, .int .i64 b, .int .i64 all] w fun e w' => e = .returned (.int .i64 (dist all a b)) ∧ w = w' := by
  rcases hall with rfl | rfl
  · by_cases h : a ≤ b
    · go_enter Try.func28, Try.ntmps28
      go_wp2
      all_goals go_ret
      all_goals refine fin_int ?_
      all_goals unfold dist
      all_goals (split <;> omega)
    · have h1 : (b - a).tmod 4294967296 = -((a - b) % 4294967296) := by
        rw [show b - a = -(a - b) by omega, Int.neg_tmod, Int.tmod_eq_emod_of_nonneg (by omega)]
      go_enter Try.func28, Try.ntmps28
      go_wp2
      all_goals go_ret
      all_goals refine fin_int ?_
      all_goals unfold dist
      all_goals (split <;> omega)
  · by_cases h : a ≤ b
    · go_enter Try.func28, Try.ntmps28
      go_wp2
      all_goals go_ret
      all_goals refine fin_int ?_
      all_goals unfold dist
      all_goals (split <;> omega)
    · have h1 : (b - a).tmod 65536 = -((a - b) % 65536) := by
        rw [show b - a = -(a - b) by omega, Int.neg_tmod, Int.tmod_eq_emod_of_nonneg (by omega)]
      go_enter Try.func28, Try.ntmps28
      go_wp2
      all_goals go_ret
      all_goals refine fin_int ?_
      all_goals unfold dist
      all_goals (split <;> omega)

theorem rdiff (a b : Int) (ha : 0 ≤ a ∧ a < 4294967296) (hb : 0 ≤ b ∧ b < 4294967296) (w : World) :
    Calls Try.prog 14 #[.int .u32 a, .int .u32 b] w fun e w' => e = .returned (.int .i64 (dist 4294967296 a b)) ∧ w = w' := by
  have hd := dist32_bounds a b
  go_enter Try.func14, Try.ntmps14
  go_wp2_with fail
  refine (rdiff0 4294967296 a b (.inl rfl) ha hb _).mono ?_
  rintro e w' ⟨rfl, rfl⟩
  go_wp2
  go_ret
  exact fin_int rfl

theorem rless (a b : Int) (ha : 0 ≤ a ∧ a < 4294967296) (hb : 0 ≤ b ∧ b < 4294967296) (w : World) :
    Calls Try.prog 12 #[.int .u32 a, .int .u32 b] w fun e w' => e = .returned (.bool (decide (0 < dist 4294967296 a b))) ∧ w = w' := by
  go_enter Try.func12, Try.ntmps12
  go_wp2_with fail
  refine (rdiff a b ha hb _).mono ?_
  rintro e w' ⟨rfl, rfl⟩
  go_wp2
  go_ret
  exact fin_bool rfl

theorem within (a l h : Int) (ha : 0 ≤ a ∧ a < 4294967296) (hl : 0 ≤ l ∧ l < 4294967296) (hh : 0 ≤ h ∧ h < 4294967296) (w : World) :
    Calls Try.prog 17 #[.int .u32 a, .int .u32 l, .int .u32 h] w fun e w' => e = .returned (.bool (decide ((a - l) % 4294967296 ≤ (h - l) % 4294967296))) ∧ w = w' := by
  go_enter Try.func17, Try.ntmps17
  go_wp2
  go_ret
  exact fin_bool rfl

theorem rwithin (a l h : Int) (ha : 0 ≤ a ∧ a < 4294967296) (hl : 0 ≤ l ∧ l < 4294967296) (hh : 0 ≤ h ∧ h < 4294967296) (w : World) :
    Calls Try.prog 18 #[.int .u32 a, .int .u32 l, .int .u32 h] w fun e w' => e = .returned (.bool (decide ((a - l) % 4294967296 ≤ (h - l) % 4294967296))) ∧ w = w' := by
  have e1 : (a - l + 4294967296) % 4294967296 = (a - l) % 4294967296 := by omega
  have e2 : (h - l + 4294967296) % 4294967296 = (h - l) % 4294967296 := by omega
  go_enter Try.func18, Try.ntmps18
  go_wp2
  go_ret
  exact fin_bool rfl

theorem add16 (a n : Int) (w : World) :
    Calls Try.prog 19 #[.int .u16 a, .int .u16 n] w fun e w' => e = .returned (.int .u16 ((a + n) % 65536)) ∧ w = w' := by
  have hw : ∀ x : Int, IntKind.u16.wrap x = x % 65536 := fun _ => rfl
  go_enter Try.func19, Try.ntmps19
  go_wp2
  go_ret
  exact fin_int rfl

theorem radd16 (a n : Int) (ha : 0 ≤ a ∧ a < 65536) (hn : 0 ≤ n ∧ n < 65536) (w : World) :
    Calls Try.prog 20 #[.int .u16 a, .int .u16 n] w fun e w' => e = .returned (.int .u16 ((a + n) % 65536)) ∧ w = w' := by
  go_enter Try.func20, Try.ntmps20
  go_wp2
  go_ret
  exact fin_int rfl

theorem distance16 (a b : Int) (ha : 0 ≤ a ∧ a < 65536) (hb : 0 ≤ b ∧ b < 65536) (w : World) :
    Calls Try.prog 31 #[.int .u16 a, .int .u16 b] w fun e w' => e = .returned (.int .i64 (dist 65536 a b)) ∧ w = w' := by
  have hx : bits BinOp.xor IntKind.u16 IntKind.u16.max 0 = 65535 := by decide +kernel
  have hs : IntKind.u16.signed = false := rfl
  have hw : ∀ x : Int, IntKind.u16.wrap x = x % 65536 := fun _ => rfl
  go_enter Try.func31, Try.ntmps31
  go_wp2
  all_goals go_ret
  all_goals refine fin_int ?_
  all_goals unfold dist
  all_goals (split <;> omega)

theorem ahead16 (a b : Int) (ha : 0 ≤ a ∧ a < 65536) (hb : 0 ≤ b ∧ b < 65536) (w : World) :
    Calls Try.prog 30 #[.int .u16 a, .int .u16 b] w fun e w' => e = .returned (.bool (decide (0 < dist 65536 a b))) ∧ w = w' := by
  go_enter Try.func30, Try.ntmps30
  go_wp2_with fail
  refine (distance16 a b ha hb _).mono ?_
  rintro e w' ⟨rfl, rfl⟩
  go_wp2
  go_ret
  exact fin_bool rfl

theorem less16 (a b : Int) (ha : 0 ≤ a ∧ a < 65536) (hb : 0 ≤ b ∧ b < 65536) (w : World) :
    Calls Try.prog 21 #[.int .u16 a, .int .u16 b] w fun e w' => e = .returned (.bool (decide (0 < dist 65536 a b))) ∧ w = w' := by
  go_enter Try.func21, Try.ntmps21
  go_wp2_with fail
  refine (ahead16 a b ha hb _).mono ?_
  rintro e w' ⟨rfl, rfl⟩
  go_wp2
  go_ret
  exact fin_bool rfl

theorem diff16 (a b : Int) (ha : 0 ≤ a ∧ a < 65536) (hb : 0 ≤ b ∧ b < 65536) (w : World) :
    Calls Try.prog 23 #[.int .u16 a, .int .u16 b] w fun e w' => e = .returned (.int .i64 (dist 65536 a b)) ∧ w = w' := by
  go_enter Try.func23, Try.ntmps23
  go_wp2_with fail
  refine (distance16 a b ha hb _).mono ?_
  rintro e w' ⟨rfl, rfl⟩
  go_wp2
  go_ret
  exact fin_int rfl

theorem rdiff16 (a b : Int) (ha : 0 ≤ a ∧ a < 65536) (hb : 0 ≤ b ∧ b < 65536) (w : World) :
    Calls Try.prog 24 #[.int .u16 a, .int .u16 b] w fun e w' => e = .returned (.int .i64 (dist 65536 a b)) ∧ w = w' := by
  have hd := dist16_bounds a b
  go_enter Try.func24, Try.ntmps24
  go_wp2_with fail
  refine (rdiff0 65536 a b (.inr rfl) ⟨ha.1, by omega⟩ ⟨hb.1, by omega⟩ _).mono ?_
  rintro e w' ⟨rfl, rfl⟩
  go_wp2
  go_ret
  exact fin_int rfl

theorem rless16 (a b : Int) (ha : 0 ≤ a ∧ a < 65536) (hb : 0 ≤ b ∧ b < 65536) (w : World) :
    Calls Try.prog 22 #[.int .u16 a, .int .u16 b] w fun e w' => e = .returned (.bool (decide (0 < dist 65536 a b))) ∧ w = w' := by
  go_enter Try.func22, Try.ntmps22
  go_wp2_with fail
  refine (rdiff16 a b ha hb _).mono ?_
  rintro e w' ⟨rfl, rfl⟩
  go_wp2
  go_ret
  exact fin_bool rfl

end Go.Proofs.Ytndjbbolodejeaa.Ser
