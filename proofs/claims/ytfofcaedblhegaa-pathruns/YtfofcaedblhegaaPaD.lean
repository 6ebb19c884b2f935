/-
  Paths: one that fails and is good again; one that nobody made.
  Conditions: as at each lemma.
-/
import Derived.Test.YtfofcaedblhegaaPaC
namespace Go.Proofs.Ytfofcaedblhegaa.Pa
open Go.ChangeShapes Go.WideShapes Go.ChangeAt Go.RowKit
open Ba (hidden Has Only cell_lt)
open Ow (Own)
set_option linter.unusedVariables false

theorem one_turn {w0 w1 w2 : World} {b : Nat} {s s' : S} (h : Own w0 w1 [(b, cp s, 56)]) (hc : Cd w2 b s') (ho : Only [b] w1 w2) : Own w0 w2 [(b, cp s', 56)] := h.turn ho hc (by simp)
theorem one_has {w0 w1 : World} {b : Nat} {s : S} (h : Own w0 w1 [(b, cp s, 56)]) : Cd w1 b s := h.has (.head _)
abbrev sA : S := newS 2 0 30000 100
abbrev sB : S := failS sA
set_option maxHeartbeats 400000 in
theorem alive (w : World) : Calls Try.prog 9 #[] w fun e w' => e = .returned (.bool true) ∧ Below w.heap.size w w' := by
  have i1 : Inv sA := newI rfl rfl
  have N : Hid (Calls Try.prog 7 #[.agg #[.int .i64 2, .int .i64 0, .int .i64 30000], .int .i64 100] w fun e w' => Made w sA e w') := new_ok rfl rfl
  have A : Hid (∀ W b, Cd W b sA → Calls Try.prog 18 #[.pointer (some ⟨b, 0, none⟩), .int .i64 1000] W fun e w' => e = .returned (.tuple #[.int .i64 31100, .int .i64 0]) ∧ Below W.heap.size W w') := fun W b h => by
    have := askX h i1 1000
    rw [show askA sA 1000 = 31100 by kernel_rfl, show askE 1000 = 0 by kernel_rfl] at this
    exact this
  have F : Hid (∀ W b, Cd W b sA → Calls Try.prog 12 #[.pointer (some ⟨b, 0, none⟩)] W fun e w' => e = .returned (.tuple #[.bool true, .int .i64 0]) ∧ Cd w' b sB ∧ Only [b] W w') := fun W b h => by
    have := failX h i1
    rw [show chg sA (failS sA) = true by kernel_rfl] at this
    exact this
  have ST : Hid (∀ W b, Cd W b sB → Calls Try.prog 13 #[.pointer (some ⟨b, 0, none⟩)] W fun e w' => e = .returned (.int .i64 2) ∧ Below W.heap.size W w') := fun W b h => by
    have := stateX h i1.fail
    rw [show stI sB = 2 by kernel_rfl] at this
    exact this
  have ER : Hid (∀ W b, Cd W b sB → Calls Try.prog 15 #[.pointer (some ⟨b, 0, none⟩)] W fun e w' => e = .returned (.int .i64 1) ∧ W = w') := fun W b h => by
    have := errorsX h i1.fail
    rw [show sB.er = 1 by kernel_rfl] at this
    exact this
  clear i1
  generalize sA = s at N A F
  generalize sB = s' at F ST ER
  go_enter Try.func9, Try.ntmps9
  go_wp2_with fail
  refine Calls.mono N.out ?_
  rintro e w1 ⟨b, rfl, h1⟩
  have O1 := hidden h1
  clear h1
  go_wp2_with fail
  refine Calls.mono (A.out _ _ (one_has O1.out)) ?_
  rintro e w2 ⟨rfl, hB⟩
  have O2 := hidden (O1.out.later hB)
  clear hB O1
  go_wp2_with fail
  refine Calls.mono (F.out _ _ (one_has O2.out)) ?_
  rintro e w3 ⟨rfl, h1, h2⟩
  have O3 := hidden (one_turn O2.out h1 h2)
  clear h1 h2 O2
  go_wp2_with fail
  refine Calls.mono (ST.out _ _ (one_has O3.out)) ?_
  rintro e w4 ⟨rfl, hB⟩
  have O4 := hidden (O3.out.later hB)
  clear hB O3
  go_wp2_with fail
  refine Calls.mono (ER.out _ _ (one_has O4.out)) ?_
  rintro e w' ⟨rfl, rfl⟩
  go_wp2
  go_ret
  exact ⟨rfl, O4.out.below⟩
/-- a path that nobody made: nil, or without a pause -/
def Nobody (w : World) (p : Option Addr) : Prop := p = none ∨ ∃ b, p = some ⟨b, 0, none⟩ ∧ w.cell? ⟨b, 6, none⟩ = some (.int .i64 0)
theorem Nobody.later {w w' : World} {p : Option Addr} (h : Nobody w p) (hB : Below w.heap.size w w') : Nobody w' p := by
  rcases h with h | ⟨b, rfl, h1⟩
  · exact .inl h
  · exact .inr ⟨b, rfl, (hB.cell (p := ⟨b, 6, none⟩) (cell_lt (a := ⟨b, 6, none⟩) h1)).trans h1⟩
theorem unmadeN {w : World} {p : Option Addr} (h : Nobody w p) : Calls Try.prog 34 #[.pointer p] w fun e w' => e = .returned (.bool true) ∧ w = w' := by
  rcases h with rfl | ⟨b, rfl, c6⟩
  · go_enter Try.func34, Try.ntmps34
    go_wp2
    go_ret
    exact ⟨rfl, rfl⟩
  · go_enter Try.func34, Try.ntmps34
    go_wp2
    go_ret
    exact ⟨rfl, rfl⟩
section
variable {w : World} {p : Option Addr}
theorem failN (h : Nobody w p) : Calls Try.prog 12 #[.pointer p] w fun e w' => e = .returned (.tuple #[.bool false, .int .i64 4]) ∧ w = w' := by
  have U := hidden (unmadeN h)
  clear h
  go_enter Try.func12, Try.ntmps12
  go_wp2_with fail
  refine Calls.mono U.out ?_
  rintro e w' ⟨rfl, rfl⟩
  go_wp2
  go_ret2
  exact ⟨rfl, rfl⟩
theorem goodN (h : Nobody w p) : Calls Try.prog 14 #[.pointer p] w fun e w' => e = .returned (.tuple #[.bool false, .int .i64 4]) ∧ w = w' := by
  have U := hidden (unmadeN h)
  clear h
  go_enter Try.func14, Try.ntmps14
  go_wp2_with fail
  refine Calls.mono U.out ?_
  rintro e w' ⟨rfl, rfl⟩
  go_wp2
  go_ret2
  exact ⟨rfl, rfl⟩
theorem missedN (h : Nobody w p) : Calls Try.prog 19 #[.pointer p] w fun e w' => e = .returned (.tuple #[.bool false, .int .i64 4]) ∧ w = w' := by
  have U := hidden (unmadeN h)
  clear h
  go_enter Try.func19, Try.ntmps19
  go_wp2_with fail
  refine Calls.mono U.out ?_
  rintro e w' ⟨rfl, rfl⟩
  go_wp2
  go_ret2
  exact ⟨rfl, rfl⟩
theorem askN (h : Nobody w p) (n : Int) : Calls Try.prog 18 #[.pointer p, .int .i64 n] w fun e w' => e = .returned (.tuple #[.int .i64 0, .int .i64 4]) ∧ w = w' := by
  have U := hidden (unmadeN h)
  clear h
  go_enter Try.func18, Try.ntmps18
  go_wp2_with fail
  refine Calls.mono U.out ?_
  rintro e w' ⟨rfl, rfl⟩
  go_wp2
  go_ret2
  exact ⟨rfl, rfl⟩
theorem beatN_ (h : Nobody w p) (n : Int) : Calls Try.prog 16 #[.pointer p, .int .i64 n] w fun e w' => e = .returned (.tuple #[.int .u32 0, .int .i64 4]) ∧ w = w' := by
  have U := hidden (unmadeN h)
  clear h
  go_enter Try.func16, Try.ntmps16
  go_wp2_with fail
  refine Calls.mono U.out ?_
  rintro e w' ⟨rfl, rfl⟩
  go_wp2
  go_ret2
  exact ⟨rfl, rfl⟩
theorem heardN (h : Nobody w p) (m n : Int) : Calls Try.prog 17 #[.pointer p, .int .u32 m, .int .i64 n] w fun e w' => e = .returned (.tuple #[.int .i64 0, .bool false, .int .i64 4]) ∧ w = w' := by
  have U := hidden (unmadeN h)
  clear h
  go_enter Try.func17, Try.ntmps17
  go_wp2_with fail
  refine Calls.mono U.out ?_
  rintro e w' ⟨rfl, rfl⟩
  go_wp2
  go_ret3
  exact ⟨rfl, rfl⟩
theorem openN (h : Nobody w p) : Calls Try.prog 20 #[.pointer p] w fun e w' => e = .returned (.tuple #[.int .u32 0, .int .i64 0, .bool false]) ∧ w = w' := by
  have U := hidden (unmadeN h)
  clear h
  go_enter Try.func20, Try.ntmps20
  go_wp2_with fail
  refine Calls.mono U.out ?_
  rintro e w' ⟨rfl, rfl⟩
  go_wp2
  go_ret3
  exact ⟨rfl, rfl⟩
theorem usedN (h : Nobody w p) (n : Int) : Calls Try.prog 21 #[.pointer p, .int .i64 n] w fun e w' => e = .returned (.int .i64 4) ∧ w = w' := by
  have U := hidden (unmadeN h)
  clear h
  go_enter Try.func21, Try.ntmps21
  go_wp2_with fail
  refine Calls.mono U.out ?_
  rintro e w' ⟨rfl, rfl⟩
  go_wp2
  go_ret
  exact ⟨rfl, rfl⟩
theorem stateN (h : Nobody w p) : Calls Try.prog 13 #[.pointer p] w fun e w' => e = .returned (.int .i64 0) ∧ w = w' := by
  have U := hidden (unmadeN h)
  clear h
  go_enter Try.func13, Try.ntmps13
  go_wp2_with fail
  refine Calls.mono U.out ?_
  rintro e w' ⟨rfl, rfl⟩
  go_wp2
  go_ret
  exact ⟨rfl, rfl⟩
theorem errorsN (h : Nobody w p) : Calls Try.prog 15 #[.pointer p] w fun e w' => e = .returned (.int .i64 0) ∧ w = w' := by
  have U := hidden (unmadeN h)
  clear h
  go_enter Try.func15, Try.ntmps15
  go_wp2_with fail
  refine Calls.mono U.out ?_
  rintro e w' ⟨rfl, rfl⟩
  go_wp2
  go_ret
  exact ⟨rfl, rfl⟩
end
end Go.Proofs.Ytfofcaedblhegaa.Pa
