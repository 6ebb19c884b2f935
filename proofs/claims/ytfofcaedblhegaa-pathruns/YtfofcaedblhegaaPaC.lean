/-
  Paths: a care that may be; New, the code's and the document's.
  Conditions: as at each lemma.
-/
import Derived.Test.YtfofcaedblhegaaPaR
namespace Go.Proofs.Ytfofcaedblhegaa.Pa
open Go.ChangeShapes Go.WideShapes Go.ChangeAt Go.RowKit
open Ba (hidden Has Only)
open Ow (Own)
set_option linter.unusedVariables false

/-- a care that may be -/
def okC (mx fl pa : Int) : Bool := decide ((0 ≤ fl ∧ fl ≤ mx ∧ mx ≤ 100) ∧ 1 ≤ pa ∧ pa ≤ 2147483648)
def newE (mx fl pa n : Int) : Int := bif okC mx fl pa then (bif tok n then 0 else 1) else 110
def newS (mx fl pa n : Int) : S := ⟨0, fl, mx, 0, false, 0, pa, n⟩
theorem newI {mx fl pa n : Int} (h : okC mx fl pa = true) (hn : tok n = true) : Inv (newS mx fl pa n) := by
  have := of_decide_eq_true h
  have := of_decide_eq_true hn
  refine ⟨?_, ?_, ?_, ?_, ?_, ?_, ?_⟩ <;> simp only [newS] <;> omega
theorem mayBe (mx fl pa : Int) (w : World) : Calls Try.prog 22 #[.agg #[.int .i64 mx, .int .i64 fl, .int .i64 pa]] w fun e w' => e = .returned (.bool (okC mx fl pa)) ∧ Below w.heap.size w w' := by
  have T : Hid (∀ W, Calls Try.prog 42 #[.int .i64 pa] W fun e w' => e = .returned (.bool (decide (1 ≤ pa ∧ pa ≤ 2147483648))) ∧ W = w') := fun W => isWait pa W
  unfold okC
  by_cases h0 : 0 ≤ fl ∧ fl ≤ mx ∧ mx ≤ 100
  · rw [show decide ((0 ≤ fl ∧ fl ≤ mx ∧ mx ≤ 100) ∧ 1 ≤ pa ∧ pa ≤ 2147483648) = decide (1 ≤ pa ∧ pa ≤ 2147483648) by rw [Bool.eq_iff_iff]; simp; omega]
    generalize decide (1 ≤ pa ∧ pa ≤ 2147483648) = x at T ⊢
    obtain ⟨h1, h2, h3⟩ := h0
    go_enter Try.func22, Try.ntmps22
    go_wp2_with fail
    refine Calls.mono (T.out _) ?_
    rintro e w' ⟨rfl, rfl⟩
    go_wp2
    go_ret
    exact ⟨rfl, (Below.refl _ w).alloc (Nat.le_refl _) _⟩
  · rw [show decide ((0 ≤ fl ∧ fl ≤ mx ∧ mx ≤ 100) ∧ 1 ≤ pa ∧ pa ≤ 2147483648) = false by apply decide_eq_false; omega]
    by_cases h1 : 0 ≤ fl
    · by_cases h2 : fl ≤ mx
      · have h3 : 100 < mx := by omega
        clear h0 T
        go_enter Try.func22, Try.ntmps22
        go_wp2
        go_ret
        exact ⟨rfl, (Below.refl _ w).alloc (Nat.le_refl _) _⟩
      · have h3 : mx < fl := by omega
        clear h0 h2 T
        go_enter Try.func22, Try.ntmps22
        go_wp2
        go_ret
        exact ⟨rfl, (Below.refl _ w).alloc (Nat.le_refl _) _⟩
    · have h2 : fl < 0 := by omega
      clear h0 h1 T
      go_enter Try.func22, Try.ntmps22
      go_wp2
      go_ret
      exact ⟨rfl, (Below.refl _ w).alloc (Nat.le_refl _) _⟩
set_option maxHeartbeats 400000 in
theorem rCare (mx fl pa : Int) (w : World) : Calls Try.prog 24 #[.agg #[.int .i64 mx, .int .i64 fl, .int .i64 pa]] w fun e w' => e = .returned (.bool (okC mx fl pa)) ∧ Below w.heap.size w w' := by
  go_enter Try.func24, Try.ntmps24
  go_wp2
  all_goals go_ret
  all_goals (refine ⟨congrArg Ending.returned (congrArg Value.bool ?_), (Below.refl _ w).alloc (Nat.le_refl _) _⟩; unfold okC)
  all_goals (first | (symm; apply decide_eq_true; omega) | (symm; apply decide_eq_false; omega) | (rw [Bool.eq_iff_iff]; simp; omega))
section
variable {w : World}
/-- a path was made, in a block of its own -/
def Made (w : World) (s : S) (e : Ending) (w' : World) : Prop := ∃ b, e = .returned (.tuple #[.pointer (some ⟨b, 0, none⟩), .int .i64 0]) ∧ Own w w' [(b, cp s, 56)]
def RMade (w : World) (s : S) (e : Ending) (w' : World) : Prop := ∃ b, e = .returned (.tuple #[.pointer (some ⟨b, 0, none⟩), .int .i64 0]) ∧ Own w w' [(b, cr s, 66)]
theorem arg3 (w : World) (mx fl pa : Int) : Own w (w.alloc (.cells #[.int .i64 mx, .int .i64 fl, .int .i64 pa] 23)) [(w.heap.size, #[.int .i64 mx, .int .i64 fl, .int .i64 pa], 23)] := (Own.refl w).alloc _ _
theorem arg3C {w w1 : World} {mx fl pa : Int} (h : Own w w1 [(w.heap.size, #[.int .i64 mx, .int .i64 fl, .int .i64 pa], 23)]) : (w1.cell? ⟨w.heap.size, 0, none⟩ = some (.int .i64 mx) ∧ w1.cell? ⟨w.heap.size, 1, none⟩ = some (.int .i64 fl) ∧ w1.cell? ⟨w.heap.size, 2, none⟩ = some (.int .i64 pa)) ∧ w.heap.size < w1.heap.size :=
  ⟨⟨h.cell (.head _) 0 rfl, h.cell (.head _) 1 rfl, h.cell (.head _) 2 rfl⟩, h.lt (.head _)⟩
theorem arg3B {w w1 : World} {mx fl pa : Int} (h : Own w w1 [(w.heap.size, #[.int .i64 mx, .int .i64 fl, .int .i64 pa], 23)]) (cs : Array Value) (t : TypeId) : Own w (w1.alloc (.cells cs t)) [(w1.heap.size, cs, t)] := (h.alloc cs t).sub (by simp)
theorem new_ok {mx fl pa n : Int} (hc : okC mx fl pa = true) (hn : tok n = true) : Calls Try.prog 7 #[.agg #[.int .i64 mx, .int .i64 fl, .int .i64 pa], .int .i64 n] w fun e w' => Made w (newS mx fl pa n) e w' := by
  have M := hidden (mayBe mx fl pa)
  have T : Hid (∀ W, Calls Try.prog 23 #[.int .i64 n] W fun e w' => e = .returned (.bool (tok n)) ∧ W = w') := fun W => isTime n W
  have O := hidden (arg3 w mx fl pa)
  rw [hc] at M
  rw [hn] at T
  clear hc hn
  go_enter Try.func7, Try.ntmps7
  go_wp2_with fail
  refine Calls.mono (M.out _) ?_
  rintro e w1 ⟨rfl, hB1⟩
  have O1 := hidden (O.out.later hB1)
  obtain ⟨⟨c0, c1, c2⟩, hl⟩ := arg3C O1.out
  clear hB1 O
  go_wp2_with fail
  refine Calls.mono (T.out _) ?_
  rintro e w' ⟨rfl, rfl⟩
  go_wp2
  go_ret2
  exact ⟨_, rfl, arg3B O1.out _ _⟩
theorem new_no {mx fl pa n : Int} (h : (okC mx fl pa && tok n) = false) : Calls Try.prog 7 #[.agg #[.int .i64 mx, .int .i64 fl, .int .i64 pa], .int .i64 n] w fun e w' => e = .returned (.tuple #[.pointer none, .int .i64 (newE mx fl pa n)]) ∧ Below w.heap.size w w' := by
  have M := hidden (mayBe mx fl pa)
  have T : Hid (∀ W, Calls Try.prog 23 #[.int .i64 n] W fun e w' => e = .returned (.bool (tok n)) ∧ W = w') := fun W => isTime n W
  have O := hidden (arg3 w mx fl pa)
  unfold newE
  generalize okC mx fl pa = x at M h ⊢
  generalize tok n = y at T h ⊢
  cases x
  · go_enter Try.func7, Try.ntmps7
    go_wp2_with fail
    refine Calls.mono (M.out _) ?_
    rintro e w1 ⟨rfl, hB1⟩
    have O1 := hidden (O.out.later hB1)
    clear hB1 O
    go_wp2
    go_ret2
    exact ⟨rfl, O1.out.below⟩
  · obtain rfl : y = false := h
    go_enter Try.func7, Try.ntmps7
    go_wp2_with fail
    refine Calls.mono (M.out _) ?_
    rintro e w1 ⟨rfl, hB1⟩
    have O1 := hidden (O.out.later hB1)
    clear hB1 O
    go_wp2_with fail
    refine Calls.mono (T.out _) ?_
    rintro e w' ⟨rfl, rfl⟩
    go_wp2
    go_ret2
    exact ⟨rfl, O1.out.below⟩
theorem rnew_ok {mx fl pa n : Int} (hc : okC mx fl pa = true) (hn : tok n = true) : Calls Try.prog 8 #[.agg #[.int .i64 mx, .int .i64 fl, .int .i64 pa], .int .i64 n] w fun e w' => RMade w (newS mx fl pa n) e w' := by
  have M := hidden (rCare mx fl pa)
  have T : Hid (∀ W, Calls Try.prog 25 #[.int .i64 n] W fun e w' => e = .returned (.bool (tok n)) ∧ W = w') := fun W => rtime n W
  have O := hidden (arg3 w mx fl pa)
  rw [hc] at M
  rw [hn] at T
  clear hc hn
  go_enter Try.func8, Try.ntmps8
  go_wp2_with fail
  refine Calls.mono (M.out _) ?_
  rintro e w1 ⟨rfl, hB1⟩
  have O1 := hidden (O.out.later hB1)
  obtain ⟨⟨c0, c1, c2⟩, hl⟩ := arg3C O1.out
  clear hB1 O
  go_wp2_with fail
  refine Calls.mono (T.out _) ?_
  rintro e w' ⟨rfl, rfl⟩
  go_wp2
  go_ret2
  exact ⟨_, rfl, arg3B O1.out _ _⟩
theorem rnew_no {mx fl pa n : Int} (h : (okC mx fl pa && tok n) = false) : Calls Try.prog 8 #[.agg #[.int .i64 mx, .int .i64 fl, .int .i64 pa], .int .i64 n] w fun e w' => e = .returned (.tuple #[.pointer none, .int .i64 (newE mx fl pa n)]) ∧ Below w.heap.size w w' := by
  have M := hidden (rCare mx fl pa)
  have T : Hid (∀ W, Calls Try.prog 25 #[.int .i64 n] W fun e w' => e = .returned (.bool (tok n)) ∧ W = w') := fun W => rtime n W
  have O := hidden (arg3 w mx fl pa)
  unfold newE
  generalize okC mx fl pa = x at M h ⊢
  generalize tok n = y at T h ⊢
  cases x
  · go_enter Try.func8, Try.ntmps8
    go_wp2_with fail
    refine Calls.mono (M.out _) ?_
    rintro e w1 ⟨rfl, hB1⟩
    have O1 := hidden (O.out.later hB1)
    clear hB1 O
    go_wp2
    go_ret2
    exact ⟨rfl, O1.out.below⟩
  · obtain rfl : y = false := h
    go_enter Try.func8, Try.ntmps8
    go_wp2_with fail
    refine Calls.mono (M.out _) ?_
    rintro e w1 ⟨rfl, hB1⟩
    have O1 := hidden (O.out.later hB1)
    clear hB1 O
    go_wp2_with fail
    refine Calls.mono (T.out _) ?_
    rintro e w' ⟨rfl, rfl⟩
    go_wp2
    go_ret2
    exact ⟨rfl, O1.out.below⟩
end
end Go.Proofs.Ytfofcaedblhegaa.Pa
