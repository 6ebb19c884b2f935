/-
  What a table that nobody made answers: it refuses all.
  Conditions: it is nil, or has no heap.
-/
import Derived.Test.YtinhhfnknlmdgaaTmW
namespace Go.Proofs.Ytinhhfnknlmdgaa.Tm
open Go.RowKit Go.Sort Go.ChangeShapes Go.WideShapes Go.ChangeAt
open Ba (hidden Only In Has own_ne own_stay own_len own_some own_mono cell_lt heap_lt)
set_option linter.unusedVariables false

theorem Nobody.later {w w' : World} {p : Option Addr} (h : Nobody w p) (hB : Below w.heap.size w w') : Nobody w' p := by
  rcases h with h | ⟨b, l, rfl, h1, h2⟩
  · exact .inl h
  · exact .inr ⟨b, l, rfl, (hB.cell (p := ⟨b, 0, none⟩) (cell_lt (a := ⟨b, 0, none⟩) h1)).trans h1, (hB.cell (p := ⟨b, 1, none⟩) (cell_lt (a := ⟨b, 1, none⟩) h2)).trans h2⟩
theorem setN {w : World} {p : Option Addr} (h : Nobody w p) (id due : Int) : Calls Try.prog 10 #[.pointer p, .int .i64 id, .int .i64 due] w fun e w' => e = .returned (.int .i64 4) ∧ w = w' := by
  go_enter Try.func10, Try.ntmps10
  go_wp2_with fail
  refine (unmadeN h).mono ?_
  rintro e w' ⟨rfl, rfl⟩
  go_wp2
  go_ret
  exact ⟨rfl, rfl⟩
theorem stopN {w : World} {p : Option Addr} (h : Nobody w p) (id : Int) : Calls Try.prog 12 #[.pointer p, .int .i64 id] w fun e w' => e = .returned (.tuple #[.bool false, .int .i64 4]) ∧ w = w' := by
  go_enter Try.func12, Try.ntmps12
  go_wp2_with fail
  refine (unmadeN h).mono ?_
  rintro e w' ⟨rfl, rfl⟩
  go_wp2
  go_ret2
  exact ⟨rfl, rfl⟩
theorem dueN {w : World} {p : Option Addr} (h : Nobody w p) (now : Int) : Calls Try.prog 13 #[.pointer p, .int .i64 now] w fun e w' => e = .returned (.tuple #[.slice none 0 0, .int .i64 4]) ∧ w = w' := by
  go_enter Try.func13, Try.ntmps13
  go_wp2_with fail
  refine (unmadeN h).mono ?_
  rintro e w' ⟨rfl, rfl⟩
  go_wp2
  go_ret2
  exact ⟨rfl, rfl⟩
theorem getN {w : World} {p : Option Addr} (h : Nobody w p) (id : Int) : Calls Try.prog 18 #[.pointer p, .int .i64 id] w fun e w' => e = .returned (.tuple #[.int .i64 0, .bool false]) ∧ w = w' := by
  go_enter Try.func18, Try.ntmps18
  go_wp2_with fail
  refine (unmadeN h).mono ?_
  rintro e w' ⟨rfl, rfl⟩
  go_wp2
  go_ret2
  exact ⟨rfl, rfl⟩
theorem lenN {w : World} {p : Option Addr} (h : Nobody w p) : Calls Try.prog 14 #[.pointer p] w fun e w' => e = .returned (.int .i64 0) ∧ w = w' := by
  go_enter Try.func14, Try.ntmps14
  go_wp2_with fail
  refine (unmadeN h).mono ?_
  rintro e w' ⟨rfl, rfl⟩
  go_wp2
  go_ret
  exact ⟨rfl, rfl⟩
theorem allN {w : World} {p : Option Addr} (h : Nobody w p) : Calls Try.prog 17 #[.pointer p] w fun e w' => e = .returned (.slice none 0 0) ∧ w = w' := by
  go_enter Try.func17, Try.ntmps17
  go_wp2_with fail
  refine (unmadeN h).mono ?_
  rintro e w' ⟨rfl, rfl⟩
  go_wp2
  go_ret
  exact ⟨rfl, rfl⟩
theorem nextN {w : World} {p : Option Addr} (h : Nobody w p) : Calls Try.prog 19 #[.pointer p] w fun e w' => e = .returned (.tuple #[.agg #[.int .i64 0, .int .i64 0], .bool false]) ∧ Below w.heap.size w w' := by
  have h2 := h.later ((Below.refl _ w).alloc (Nat.le_refl _) (.cells #[.int .i64 0, .int .i64 0] 43))
  have U := hidden (unmadeN h2)
  go_enter Try.func19, Try.ntmps19
  go_wp2_with fail
  refine Calls.mono U.out ?_
  rintro e w' ⟨rfl, rfl⟩
  go_wp2
  refine bodyPost_ret (v := .tuple #[.agg #[.int .i64 0, .int .i64 0], .bool false]) (by rw [results_cell_tmp rfl]; go_simp) rfl ⟨rfl, ?_⟩
  exact (Below.refl _ w).alloc (Nat.le_refl _) _
end Go.Proofs.Ytinhhfnknlmdgaa.Tm
