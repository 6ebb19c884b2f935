/-
  Timeouts: a number kept within bounds, bounds that may be, states that may be.
  Conditions: none.
-/
import Derived.Test.YthfhcepfomghoaaOw
import Derived.Lib.MinMax
namespace Go.Proofs.Ythfhcepfomghoaa.Rt
open Go.ChangeShapes Go.WideShapes Go.ChangeAt Go.RowKit
open Ba (hidden Has)
open Ow (Own)
set_option linter.unusedVariables false

/-- the number nearest to n within bounds -/
def keepI (n lo hi : Int) : Int := max lo (min n hi)
/-- bounds that may be; means that may be; Check's number -/
def okT (i mi ma : Int) : Bool := decide (1 ≤ mi ∧ mi ≤ i ∧ i ≤ ma ∧ ma ≤ 1048576)
def okS (k : Bool) (s v : Int) : Bool := bif k then decide ((0 ≤ s ∧ s ≤ 8388608) ∧ 0 ≤ v ∧ v ≤ 8388608) else decide (s = 0 ∧ v = 0)
def inB (n lo hi : Int) : Bool := decide (n = keepI n lo hi)
def chk (i mi ma : Int) (k : Bool) (s v t : Int) : Int := bif okT i mi ma then (bif okS k s v && decide (mi ≤ t ∧ t ≤ ma) then 0 else 1) else 100
theorem inB_eq {n lo hi : Int} (h : lo ≤ hi) : inB n lo hi = decide (lo ≤ n ∧ n ≤ hi) := by
  unfold inB keepI
  rw [Bool.eq_iff_iff]
  simp
  omega
theorem keep (n lo hi : Int) (w : World) : Calls Try.prog 24 #[.int .i64 n, .int .i64 lo, .int .i64 hi] w fun e w' => e = .returned (.int .i64 (keepI n lo hi)) ∧ w = w' := by
  go_enter Try.func24, Try.ntmps24
  go_wp2
  go_ret
  exact ⟨rfl, rfl⟩
theorem within (n lo hi : Int) (w : World) : Calls Try.prog 19 #[.int .i64 n, .int .i64 lo, .int .i64 hi] w fun e w' => e = .returned (.bool (inB n lo hi)) ∧ w = w' := by
  have K := hidden (keep n lo hi w)
  go_enter Try.func19, Try.ntmps19
  go_wp2_with fail
  refine Calls.mono K.out ?_
  rintro e w' ⟨rfl, rfl⟩
  go_wp2
  go_ret
  refine ⟨congrArg Ending.returned (congrArg Value.bool ?_), rfl⟩
  unfold inB
  rw [Bool.eq_iff_iff]; simp
theorem rise (i mi ma : Int) (w : World) : Calls Try.prog 27 #[.agg #[.int .i64 i, .int .i64 mi, .int .i64 ma]] w fun e w' => e = .returned (.bool (okT i mi ma)) ∧ Below w.heap.size w w' := by
  go_enter Try.func27, Try.ntmps27
  go_wp2
  all_goals go_ret
  all_goals (refine ⟨congrArg Ending.returned (congrArg Value.bool ?_), (Below.refl _ w).alloc (Nat.le_refl _) _⟩; unfold okT)
  all_goals (first | (symm; apply decide_eq_true; omega) | (symm; apply decide_eq_false; omega) | (rw [Bool.eq_iff_iff]; simp; omega))
theorem rBounds (i mi ma : Int) (w : World) : Calls Try.prog 22 #[.agg #[.int .i64 i, .int .i64 mi, .int .i64 ma]] w fun e w' => e = .returned (.bool (okT i mi ma)) ∧ Below w.heap.size w w' := by
  go_enter Try.func22, Try.ntmps22
  go_wp2
  all_goals go_ret
  all_goals (refine ⟨congrArg Ending.returned (congrArg Value.bool ?_), (Below.refl _ w).alloc (Nat.le_refl _) _⟩; unfold okT)
  all_goals (first | (symm; apply decide_eq_true; omega) | (symm; apply decide_eq_false; omega) | (rw [Bool.eq_iff_iff]; simp; omega))
theorem sound (k : Bool) (s v t : Int) (w : World) : Calls Try.prog 28 #[.agg #[.bool k, .int .i64 s, .int .i64 v, .int .i64 t]] w fun e w' => e = .returned (.bool (okS k s v)) ∧ Below w.heap.size w w' := by
  have W := hidden within
  cases k
  · go_enter Try.func28, Try.ntmps28
    go_wp2
    all_goals go_ret
    all_goals (refine ⟨congrArg Ending.returned (congrArg Value.bool ?_), (Below.refl _ w).alloc (Nat.le_refl _) _⟩; unfold okS)
    all_goals (first | (symm; apply decide_eq_true; omega) | (symm; apply decide_eq_false; omega) | (rw [Bool.eq_iff_iff]; simp; omega))
  · have e1 := inB_eq (n := s) (lo := 0) (hi := 8388608) (by decide)
    have e2 := inB_eq (n := v) (lo := 0) (hi := 8388608) (by decide)
    have E : okS true s v = (inB s 0 8388608 && inB v 0 8388608) := by
      rw [e1, e2]; unfold okS; rw [Bool.eq_iff_iff]; simp
    rw [E]
    clear e1 e2 E
    have W1 := hidden (within s 0 8388608)
    have W2 := hidden (within v 0 8388608)
    generalize inB s 0 8388608 = x at W1 ⊢
    generalize inB v 0 8388608 = y at W2 ⊢
    cases x
    · go_enter Try.func28, Try.ntmps28
      go_wp2_with fail
      refine Calls.mono (W1.out _) ?_
      rintro e w' ⟨rfl, rfl⟩
      go_wp2
      go_ret
      exact ⟨rfl, (Below.refl _ w).alloc (Nat.le_refl _) _⟩
    · go_enter Try.func28, Try.ntmps28
      go_wp2_with fail
      refine Calls.mono (W1.out _) ?_
      rintro e w' ⟨rfl, rfl⟩
      go_wp2_with fail
      refine Calls.mono (W2.out _) ?_
      rintro e w' ⟨rfl, rfl⟩
      go_wp2
      go_ret
      exact ⟨by simp, (Below.refl _ w).alloc (Nat.le_refl _) _⟩
/-- what came in, in the first two blocks -/
abbrev B2 (w : World) (i mi ma : Int) (k : Bool) (s v t : Int) (T : TypeId) : List Ow.Bk := [(w.heap.size + 1, #[.bool k, .int .i64 s, .int .i64 v, .int .i64 t], 25), (w.heap.size, #[.int .i64 i, .int .i64 mi, .int .i64 ma], T)]
theorem own2 (w : World) (i mi ma : Int) (k : Bool) (s v t : Int) (T : TypeId) : Own w ((w.alloc (.cells #[.int .i64 i, .int .i64 mi, .int .i64 ma] T)).alloc (.cells #[.bool k, .int .i64 s, .int .i64 v, .int .i64 t] 25)) (B2 w i mi ma k s v t T) := by
  have h := ((Own.refl w).alloc #[.int .i64 i, .int .i64 mi, .int .i64 ma] T).alloc #[.bool k, .int .i64 s, .int .i64 v, .int .i64 t] 25
  simpa using h
theorem cells2 {w w1 : World} {i mi ma : Int} {k : Bool} {s v t : Int} {T : TypeId} (h : Own w w1 (B2 w i mi ma k s v t T)) :
    w1.cell? ⟨w.heap.size, 0, none⟩ = some (.int .i64 i) ∧ w1.cell? ⟨w.heap.size, 1, none⟩ = some (.int .i64 mi) ∧ w1.cell? ⟨w.heap.size, 2, none⟩ = some (.int .i64 ma) ∧
    w1.cell? ⟨w.heap.size + 1, 0, none⟩ = some (.bool k) ∧ w1.cell? ⟨w.heap.size + 1, 1, none⟩ = some (.int .i64 s) ∧ w1.cell? ⟨w.heap.size + 1, 2, none⟩ = some (.int .i64 v) ∧ w1.cell? ⟨w.heap.size + 1, 3, none⟩ = some (.int .i64 t) :=
  ⟨h.cell (.tail _ (.head _)) 0 rfl, h.cell (.tail _ (.head _)) 1 rfl, h.cell (.tail _ (.head _)) 2 rfl, h.cell (.head _) 0 rfl, h.cell (.head _) 1 rfl, h.cell (.head _) 2 rfl, h.cell (.head _) 3 rfl⟩
theorem check (i mi ma : Int) (k : Bool) (s v t : Int) (w : World) : Calls Try.prog 23 #[.agg #[.int .i64 i, .int .i64 mi, .int .i64 ma], .agg #[.bool k, .int .i64 s, .int .i64 v, .int .i64 t]] w fun e w' => e = .returned (.int .i64 (chk i mi ma k s v t)) ∧ Below w.heap.size w w' := by
  have R := hidden (rise i mi ma)
  have S := hidden (sound k s v t)
  have W := hidden (within t mi ma)
  have O := hidden (own2 w i mi ma k s v t 37)
  have E : okT i mi ma = true → inB t mi ma = decide (mi ≤ t ∧ t ≤ ma) := fun h => inB_eq (by have := of_decide_eq_true h; omega)
  unfold chk
  generalize okT i mi ma = x at R E ⊢
  generalize okS k s v = y at S ⊢
  cases x
  · clear E W S
    go_enter Try.func23, Try.ntmps23
    go_wp2_with fail
    refine Calls.mono (R.out _) ?_
    rintro e w1 ⟨rfl, hB1⟩
    have HB := hidden (O.out.later hB1).below
    clear hB1
    go_wp2
    go_ret
    exact ⟨rfl, HB.out⟩
  · rw [← E rfl]
    generalize inB t mi ma = z at W ⊢
    clear E
    go_enter Try.func23, Try.ntmps23
    go_wp2_with fail
    refine Calls.mono (R.out _) ?_
    rintro e w1 ⟨rfl, hB1⟩
    have O1 := hidden (O.out.later hB1)
    obtain ⟨c0, c1, c2, c3, c4, c5, c6⟩ := cells2 O1.out
    clear hB1 O
    go_wp2_with fail
    refine Calls.mono (S.out _) ?_
    rintro e w2 ⟨rfl, hB2⟩
    have O2 := hidden (O1.out.later hB2)
    clear c0 c1 c2 c3 c4 c5 c6
    obtain ⟨c0, c1, c2, c3, c4, c5, c6⟩ := cells2 O2.out
    clear hB2 O1
    cases y
    · go_wp2
      go_ret
      exact ⟨rfl, O2.out.below⟩
    · go_wp2_with fail
      refine Calls.mono (W.out _) ?_
      rintro e w' ⟨rfl, rfl⟩
      cases z
      · go_wp2
        go_ret
        exact ⟨rfl, O2.out.below⟩
      · go_wp2
        go_ret
        exact ⟨rfl, O2.out.below⟩
end Go.Proofs.Ythfhcepfomghoaa.Rt
