/-
  Windows of several paths: what is asked of one of them.
  Conditions: as at each lemma.
-/
import Derived.Test.YtbcdoilfmfckiaaCoB
namespace Go.Proofs.Ytbcdoilfmfckiaa.Co
open Go.ChangeShapes Go.WideShapes Go.ChangeAt Go.RowKit
open Ba (hidden Has Only)
open Ow (Own)
set_option linter.unusedVariables false

/-- why there is no answer -/
def er (zs : List Fw) (m i y : Int) : Int := bif okB zs m then (bif decide (0 ≤ i ∧ i < zs.length) then (bif decide (0 ≤ y ∧ y ≤ 1073741824) then 0 else 1) else 5) else 130
theorem okB_t {zs : List Fw} {m : Int} (h : okF zs m) : okB zs m = true := (okB_iff zs m).2 h
theorem okB_f {zs : List Fw} {m : Int} (h : ¬ okF zs m) : okB zs m = false := by
  cases hb : okB zs m with
  | true => exact absurd ((okB_iff zs m).1 hb) h
  | false => rfl
theorem er_no {zs : List Fw} {m : Int} (h : ¬ okF zs m) (i y : Int) : er zs m i y = 130 := by unfold er; rw [okB_f h]; rfl
theorem er_range {zs : List Fw} {m : Int} (h : okF zs m) {i : Int} (hi : ¬ (0 ≤ i ∧ i < zs.length)) (y : Int) : er zs m i y = 5 := by unfold er; rw [okB_t h, decide_eq_false hi]; rfl
theorem er_arg {zs : List Fw} {m : Int} (h : okF zs m) {i : Int} (hi : 0 ≤ i ∧ i < zs.length) {y : Int} (hy : ¬ (0 ≤ y ∧ y ≤ 1073741824)) : er zs m i y = 1 := by unfold er; rw [okB_t h, decide_eq_true hi, decide_eq_false hy]; rfl
theorem er_ok {zs : List Fw} {m : Int} (h : okF zs m) {i : Int} (hi : 0 ≤ i ∧ i < zs.length) {y : Int} (hy : 0 ≤ y ∧ y ≤ 1073741824) : er zs m i y = 0 := by unfold er; rw [okB_t h, decide_eq_true hi, decide_eq_true hy]; rfl
/-- a number, where nothing is amiss -/
def va (e v : Int) : Int := if e = 0 then v else 0
theorem va_0 (v : Int) : va 0 v = v := rfl
theorem cells4 {w w1 : World} {L : List Ow.Bk} {b : Nat} {v0 v1 v2 v3 : Value} {t : TypeId} (h : Own w w1 L) (hx : (b, #[v0, v1, v2, v3], t) ∈ L) : w1.cell? ⟨b, 0, none⟩ = some v0 ∧ w1.cell? ⟨b, 1, none⟩ = some v1 ∧ w1.cell? ⟨b, 2, none⟩ = some v2 ∧ w1.cell? ⟨b, 3, none⟩ = some v3 :=
  ⟨h.cell hx 0 rfl, h.cell hx 1 rfl, h.cell hx 2 rfl, h.cell hx 3 rfl⟩
section
variable {w : World} {a : Option Addr} {n cap : Nat} {zs : List Fw}
theorem ask_no (h : Fl w a n zs) {m : Int} (hk : ¬ okF zs m) (i y : Int) (v : Value) : Calls Try.prog 23 #[.agg (mem a n cap m i y), v] w fun e w' => e = .returned (.tuple #[.int .i64 0, .int .i64 130]) ∧ Below w.heap.size w w' := by
  have hn : n ≤ 140737488355328 := h.2.2.1
  have hl := h.len
  have hB0 := (Below.refl _ w).alloc (Nat.le_refl _) (.cells (mem a n cap m i y) 49)
  have CK := hidden (check (cap := cap) (h.later hB0) m)
  rw [chk_no hk] at CK
  have O := hidden (lts (cap := cap) h m i y)
  clear h hk hB0 hl
  go_enter Try.func23, Try.ntmps23
  go_wp2_with fail
  refine Calls.mono CK.out ?_
  rintro e w1 ⟨rfl, hB⟩
  have O1 := hidden (O.out.later hB)
  obtain ⟨c0, c1, c2, c3⟩ := cells4 O1.out (.head _)
  clear hB CK O
  go_wp2
  go_ret2
  exact ⟨rfl, O1.out.below⟩
theorem ask_range (h : Fl w a n zs) {m : Int} (hk : okF zs m) {i : Int} (hi : ¬ (0 ≤ i ∧ i < n)) (y : Int) (v : Value) : Calls Try.prog 23 #[.agg (mem a n cap m i y), v] w fun e w' => e = .returned (.tuple #[.int .i64 0, .int .i64 5]) ∧ Below w.heap.size w w' := by
  have hn : n ≤ 140737488355328 := h.2.2.1
  have hl := h.len
  have hB0 := (Below.refl _ w).alloc (Nat.le_refl _) (.cells (mem a n cap m i y) 49)
  have CK := hidden (check (cap := cap) (h.later hB0) m)
  rw [chk_ok hk] at CK
  have O := hidden (lts (cap := cap) h m i y)
  have WI := hidden (within_f (lo := 0) (n := i) (hi := (n : Int) - 1) (by omega))
  have hw : IntKind.i64.wrap ((n : Int) - 1) = (n : Int) - 1 := by rw [IntKind.wrap_i64]; omega
  clear h hk hB0 hl hi
  go_enter Try.func23, Try.ntmps23
  go_wp2_with fail
  refine Calls.mono CK.out ?_
  rintro e w1 ⟨rfl, hB⟩
  have O1 := hidden (O.out.later hB)
  obtain ⟨c0, c1, c2, c3⟩ := cells4 O1.out (.head _)
  clear hB CK O
  go_wp2_with fail
  refine Calls.mono (WI.out _) ?_
  rintro e w2 ⟨rfl, rfl⟩
  go_wp2
  go_ret2
  exact ⟨rfl, O1.out.below⟩
theorem ask_arg (h : Fl w a n zs) {m : Int} (hk : okF zs m) {i : Int} (hi : 0 ≤ i ∧ i < n) {y : Int} (hy : ¬ (0 ≤ y ∧ y ≤ 1073741824)) (v : Value) : Calls Try.prog 23 #[.agg (mem a n cap m i y), v] w fun e w' => e = .returned (.tuple #[.int .i64 0, .int .i64 1]) ∧ Below w.heap.size w w' := by
  have hn : n ≤ 140737488355328 := h.2.2.1
  have hl := h.len
  have hB0 := (Below.refl _ w).alloc (Nat.le_refl _) (.cells (mem a n cap m i y) 49)
  have CK := hidden (check (cap := cap) (h.later hB0) m)
  rw [chk_ok hk] at CK
  have O := hidden (lts (cap := cap) h m i y)
  have WI := hidden (within_t (lo := 0) (n := i) (hi := (n : Int) - 1) (by omega))
  have WY := hidden (within_f hy)
  have hw : IntKind.i64.wrap ((n : Int) - 1) = (n : Int) - 1 := by rw [IntKind.wrap_i64]; omega
  clear h hk hB0 hl hi hy
  go_enter Try.func23, Try.ntmps23
  go_wp2_with fail
  refine Calls.mono CK.out ?_
  rintro e w1 ⟨rfl, hB⟩
  have O1 := hidden (O.out.later hB)
  obtain ⟨c0, c1, c2, c3⟩ := cells4 O1.out (.head _)
  clear hB CK O
  go_wp2_with fail
  refine Calls.mono (WI.out _) ?_
  rintro e w2 ⟨rfl, rfl⟩
  go_wp2_with fail
  refine Calls.mono (WY.out _) ?_
  rintro e w2 ⟨rfl, rfl⟩
  go_wp2
  go_ret2
  exact ⟨rfl, O1.out.below⟩
theorem ask_share0 (h : Fl w a n zs) {m : Int} (hk : okF zs m) {i : Int} (hi : 0 ≤ i ∧ i < n) {y : Int} (hy : 0 ≤ y ∧ y ≤ 1073741824) : Calls Try.prog 23 #[.agg (mem a n cap m i y), .func (.func 24) #[] #[]] w fun e w' => e = .returned (.tuple #[.int .i64 (share zs i.toNat y), .int .i64 0]) ∧ Below w.heap.size w w' := by
  have hn : n ≤ 140737488355328 := h.2.2.1
  have hl := h.len
  have hB0 := (Below.refl _ w).alloc (Nat.le_refl _) (.cells (mem a n cap m i y) 49)
  have CK := hidden (check (cap := cap) (h.later hB0) m)
  rw [chk_ok hk] at CK
  have O := hidden (lts (cap := cap) h m i y)
  have h8 : n ≤ 8 := by rw [← hl]; exact hk.1.2
  have WI := hidden (within_t (lo := 0) (n := i) (hi := (n : Int) - 1) (by omega))
  have WY := hidden (within_t hy)
  have HW : Hid (∀ X, Below (w.alloc (.cells (mem a n cap m i y) 49)).heap.size (w.alloc (.cells (mem a n cap m i y) 49)) X → Calls Try.prog 24 #[.agg #[.slice a n cap, .int .i64 m, .int .i64 i, .int .i64 y]] X fun e w' => e = .returned (.int .i64 (share zs i.toNat y)) ∧ Below X.heap.size X w') := fun X hX => share_ (cap := cap) ((h.later hB0).later hX) hk.2.2 h8 m hi hy
  have hw : IntKind.i64.wrap ((n : Int) - 1) = (n : Int) - 1 := by rw [IntKind.wrap_i64]; omega
  generalize share zs i.toNat y = V at *
  clear h hk hB0 hl hi hy
  go_enter Try.func23, Try.ntmps23
  go_wp2_with fail
  refine Calls.mono CK.out ?_
  rintro e w1 ⟨rfl, hB⟩
  have O1 := hidden (O.out.later hB)
  obtain ⟨c0, c1, c2, c3⟩ := cells4 O1.out (.head _)
  have HB := hidden hB
  clear hB CK O
  go_wp2_with fail
  refine Calls.mono (WI.out _) ?_
  rintro e w2 ⟨rfl, rfl⟩
  go_wp2_with fail
  refine Calls.mono (WY.out _) ?_
  rintro e w2 ⟨rfl, rfl⟩
  go_wp2_with fail
  refine Calls.mono (HW.out _ HB.out) ?_
  rintro e w2 ⟨rfl, hB⟩
  have O2 := hidden (O1.out.later hB)
  clear hB c0 c1 c2 c3
  go_wp2
  go_ret2
  exact ⟨rfl, O2.out.below⟩
theorem ask_share (h : Fl w a n zs) (m i y : Int) : Calls Try.prog 23 #[.agg (mem a n cap m i y), .func (.func 24) #[] #[]] w fun e w' => e = .returned (.tuple #[.int .i64 (va (er zs m i y) (share zs i.toNat y)), .int .i64 (er zs m i y)]) ∧ Below w.heap.size w w' := by
  have hl := h.len
  by_cases hk : okF zs m
  · by_cases hi : 0 ≤ i ∧ i < n
    · by_cases hy : 0 ≤ y ∧ y ≤ 1073741824
      · rw [er_ok hk (by rw [hl]; exact hi) hy]
        exact ask_share0 h hk hi hy
      · rw [er_arg hk (by rw [hl]; exact hi) hy]
        exact ask_arg h hk hi hy _
    · rw [er_range hk (by rw [hl]; exact hi) y]
      exact ask_range h hk hi y _
  · rw [er_no hk i y]
    exact ask_no h hk i y _
theorem ask_slow0 (h : Fl w a n zs) {m : Int} (hk : okF zs m) {i : Int} (hi : 0 ≤ i ∧ i < n) {y : Int} (hy : 0 ≤ y ∧ y ≤ 1073741824) : Calls Try.prog 23 #[.agg (mem a n cap m i y), .func (.func 29) #[] #[]] w fun e w' => e = .returned (.tuple #[.int .i64 (share zs i.toNat (min y m)), .int .i64 0]) ∧ Below w.heap.size w w' := by
  have hn : n ≤ 140737488355328 := h.2.2.1
  have hl := h.len
  have hB0 := (Below.refl _ w).alloc (Nat.le_refl _) (.cells (mem a n cap m i y) 49)
  have CK := hidden (check (cap := cap) (h.later hB0) m)
  rw [chk_ok hk] at CK
  have O := hidden (lts (cap := cap) h m i y)
  have h8 : n ≤ 8 := by rw [← hl]; exact hk.1.2
  have WI := hidden (within_t (lo := 0) (n := i) (hi := (n : Int) - 1) (by omega))
  have WY := hidden (within_t hy)
  have HW : Hid (∀ X, Below (w.alloc (.cells (mem a n cap m i y) 49)).heap.size (w.alloc (.cells (mem a n cap m i y) 49)) X → Calls Try.prog 29 #[.agg #[.slice a n cap, .int .i64 m, .int .i64 i, .int .i64 y]] X fun e w' => e = .returned (.int .i64 (share zs i.toNat (min y m))) ∧ Below X.heap.size X w') := fun X hX => slow_ (cap := cap) ((h.later hB0).later hX) hk.2.2 h8 hk.2.1 hi hy
  have hw : IntKind.i64.wrap ((n : Int) - 1) = (n : Int) - 1 := by rw [IntKind.wrap_i64]; omega
  generalize share zs i.toNat (min y m) = V at *
  clear h hk hB0 hl hi hy
  go_enter Try.func23, Try.ntmps23
  go_wp2_with fail
  refine Calls.mono CK.out ?_
  rintro e w1 ⟨rfl, hB⟩
  have O1 := hidden (O.out.later hB)
  obtain ⟨c0, c1, c2, c3⟩ := cells4 O1.out (.head _)
  have HB := hidden hB
  clear hB CK O
  go_wp2_with fail
  refine Calls.mono (WI.out _) ?_
  rintro e w2 ⟨rfl, rfl⟩
  go_wp2_with fail
  refine Calls.mono (WY.out _) ?_
  rintro e w2 ⟨rfl, rfl⟩
  go_wp2_with fail
  refine Calls.mono (HW.out _ HB.out) ?_
  rintro e w2 ⟨rfl, hB⟩
  have O2 := hidden (O1.out.later hB)
  clear hB c0 c1 c2 c3
  go_wp2
  go_ret2
  exact ⟨rfl, O2.out.below⟩
theorem ask_slow (h : Fl w a n zs) (m i y : Int) : Calls Try.prog 23 #[.agg (mem a n cap m i y), .func (.func 29) #[] #[]] w fun e w' => e = .returned (.tuple #[.int .i64 (va (er zs m i y) (share zs i.toNat (min y m))), .int .i64 (er zs m i y)]) ∧ Below w.heap.size w w' := by
  have hl := h.len
  by_cases hk : okF zs m
  · by_cases hi : 0 ≤ i ∧ i < n
    · by_cases hy : 0 ≤ y ∧ y ≤ 1073741824
      · rw [er_ok hk (by rw [hl]; exact hi) hy]
        exact ask_slow0 h hk hi hy
      · rw [er_arg hk (by rw [hl]; exact hi) hy]
        exact ask_arg h hk hi hy _
    · rw [er_range hk (by rw [hl]; exact hi) y]
      exact ask_range h hk hi y _
  · rw [er_no hk i y]
    exact ask_no h hk i y _
theorem ask_avoid0 (h : Fl w a n zs) {m : Int} (hk : okF zs m) {i : Int} (hi : 0 ≤ i ∧ i < n) {y : Int} (hy : 0 ≤ y ∧ y ≤ 1073741824) : Calls Try.prog 23 #[.agg (mem a n cap m i y), .func (.func 30) #[] #[]] w fun e w' => e = .returned (.tuple #[.int .i64 (share zs i.toNat m), .int .i64 0]) ∧ Below w.heap.size w w' := by
  have hn : n ≤ 140737488355328 := h.2.2.1
  have hl := h.len
  have hB0 := (Below.refl _ w).alloc (Nat.le_refl _) (.cells (mem a n cap m i y) 49)
  have CK := hidden (check (cap := cap) (h.later hB0) m)
  rw [chk_ok hk] at CK
  have O := hidden (lts (cap := cap) h m i y)
  have h8 : n ≤ 8 := by rw [← hl]; exact hk.1.2
  have WI := hidden (within_t (lo := 0) (n := i) (hi := (n : Int) - 1) (by omega))
  have WY := hidden (within_t hy)
  have HW : Hid (∀ X, Below (w.alloc (.cells (mem a n cap m i y) 49)).heap.size (w.alloc (.cells (mem a n cap m i y) 49)) X → Calls Try.prog 30 #[.agg #[.slice a n cap, .int .i64 m, .int .i64 i, .int .i64 y]] X fun e w' => e = .returned (.int .i64 (share zs i.toNat m)) ∧ Below X.heap.size X w') := fun X hX => avoid_ (cap := cap) ((h.later hB0).later hX) hk.2.2 h8 hk.2.1 hi y
  have hw : IntKind.i64.wrap ((n : Int) - 1) = (n : Int) - 1 := by rw [IntKind.wrap_i64]; omega
  generalize share zs i.toNat m = V at *
  clear h hk hB0 hl hi hy
  go_enter Try.func23, Try.ntmps23
  go_wp2_with fail
  refine Calls.mono CK.out ?_
  rintro e w1 ⟨rfl, hB⟩
  have O1 := hidden (O.out.later hB)
  obtain ⟨c0, c1, c2, c3⟩ := cells4 O1.out (.head _)
  have HB := hidden hB
  clear hB CK O
  go_wp2_with fail
  refine Calls.mono (WI.out _) ?_
  rintro e w2 ⟨rfl, rfl⟩
  go_wp2_with fail
  refine Calls.mono (WY.out _) ?_
  rintro e w2 ⟨rfl, rfl⟩
  go_wp2_with fail
  refine Calls.mono (HW.out _ HB.out) ?_
  rintro e w2 ⟨rfl, hB⟩
  have O2 := hidden (O1.out.later hB)
  clear hB c0 c1 c2 c3
  go_wp2
  go_ret2
  exact ⟨rfl, O2.out.below⟩
theorem ask_avoid (h : Fl w a n zs) (m i y : Int) : Calls Try.prog 23 #[.agg (mem a n cap m i y), .func (.func 30) #[] #[]] w fun e w' => e = .returned (.tuple #[.int .i64 (va (er zs m i y) (share zs i.toNat m)), .int .i64 (er zs m i y)]) ∧ Below w.heap.size w w' := by
  have hl := h.len
  by_cases hk : okF zs m
  · by_cases hi : 0 ≤ i ∧ i < n
    · by_cases hy : 0 ≤ y ∧ y ≤ 1073741824
      · rw [er_ok hk (by rw [hl]; exact hi) hy]
        exact ask_avoid0 h hk hi hy
      · rw [er_arg hk (by rw [hl]; exact hi) hy]
        exact ask_arg h hk hi hy _
    · rw [er_range hk (by rw [hl]; exact hi) y]
      exact ask_range h hk hi y _
  · rw [er_no hk i y]
    exact ask_no h hk i y _
theorem ask_cut0 (h : Fl w a n zs) {m : Int} (hk : okF zs m) {i : Int} (hi : 0 ≤ i ∧ i < n) {y : Int} (hy : 0 ≤ y ∧ y ≤ 1073741824) : Calls Try.prog 23 #[.agg (mem a n cap m i y), .func (.func 31) #[] #[]] w fun e w' => e = .returned (.tuple #[.int .i64 (cutV zs i.toNat m), .int .i64 0]) ∧ Below w.heap.size w w' := by
  have hn : n ≤ 140737488355328 := h.2.2.1
  have hl := h.len
  have hB0 := (Below.refl _ w).alloc (Nat.le_refl _) (.cells (mem a n cap m i y) 49)
  have CK := hidden (check (cap := cap) (h.later hB0) m)
  rw [chk_ok hk] at CK
  have O := hidden (lts (cap := cap) h m i y)
  have h8 : n ≤ 8 := by rw [← hl]; exact hk.1.2
  have WI := hidden (within_t (lo := 0) (n := i) (hi := (n : Int) - 1) (by omega))
  have WY := hidden (within_t hy)
  have HW : Hid (∀ X, Below (w.alloc (.cells (mem a n cap m i y) 49)).heap.size (w.alloc (.cells (mem a n cap m i y) 49)) X → Calls Try.prog 31 #[.agg #[.slice a n cap, .int .i64 m, .int .i64 i, .int .i64 y]] X fun e w' => e = .returned (.int .i64 (cutV zs i.toNat m)) ∧ Below X.heap.size X w') := fun X hX => cut_ (cap := cap) ((h.later hB0).later hX) hk.2.2 h8 hk.2.1 hi y
  have hw : IntKind.i64.wrap ((n : Int) - 1) = (n : Int) - 1 := by rw [IntKind.wrap_i64]; omega
  generalize cutV zs i.toNat m = V at *
  clear h hk hB0 hl hi hy
  go_enter Try.func23, Try.ntmps23
  go_wp2_with fail
  refine Calls.mono CK.out ?_
  rintro e w1 ⟨rfl, hB⟩
  have O1 := hidden (O.out.later hB)
  obtain ⟨c0, c1, c2, c3⟩ := cells4 O1.out (.head _)
  have HB := hidden hB
  clear hB CK O
  go_wp2_with fail
  refine Calls.mono (WI.out _) ?_
  rintro e w2 ⟨rfl, rfl⟩
  go_wp2_with fail
  refine Calls.mono (WY.out _) ?_
  rintro e w2 ⟨rfl, rfl⟩
  go_wp2_with fail
  refine Calls.mono (HW.out _ HB.out) ?_
  rintro e w2 ⟨rfl, hB⟩
  have O2 := hidden (O1.out.later hB)
  clear hB c0 c1 c2 c3
  go_wp2
  go_ret2
  exact ⟨rfl, O2.out.below⟩
theorem ask_cut (h : Fl w a n zs) (m i y : Int) : Calls Try.prog 23 #[.agg (mem a n cap m i y), .func (.func 31) #[] #[]] w fun e w' => e = .returned (.tuple #[.int .i64 (va (er zs m i y) (cutV zs i.toNat m)), .int .i64 (er zs m i y)]) ∧ Below w.heap.size w w' := by
  have hl := h.len
  by_cases hk : okF zs m
  · by_cases hi : 0 ≤ i ∧ i < n
    · by_cases hy : 0 ≤ y ∧ y ≤ 1073741824
      · rw [er_ok hk (by rw [hl]; exact hi) hy]
        exact ask_cut0 h hk hi hy
      · rw [er_arg hk (by rw [hl]; exact hi) hy]
        exact ask_arg h hk hi hy _
    · rw [er_range hk (by rw [hl]; exact hi) y]
      exact ask_range h hk hi y _
  · rw [er_no hk i y]
    exact ask_no h hk i y _
theorem shareX (h : Fl w a n zs) (i y : Int) : Calls Try.prog 9 #[.slice a n cap, .int .i64 i, .int .i64 y] w fun e w' => e = .returned (.tuple #[.int .i64 (va (er zs 1 i y) (share zs i.toNat y)), .int .i64 (er zs 1 i y)]) ∧ Below w.heap.size w w' := by
  have A := hidden (ask_share (cap := cap) h 1 i y)
  generalize va (er zs 1 i y) (share zs i.toNat y) = V at *
  generalize er zs 1 i y = E at *
  clear h
  go_enter Try.func9, Try.ntmps9
  go_wp2_with fail
  refine Calls.mono A.out ?_
  rintro e w1 ⟨rfl, hB⟩
  have HB := hidden hB
  clear hB
  go_wp2
  go_ret2
  exact ⟨rfl, HB.out⟩
theorem slowX (h : Fl w a n zs) (i y m : Int) : Calls Try.prog 14 #[.slice a n cap, .int .i64 i, .int .i64 y, .int .i64 m] w fun e w' => e = .returned (.tuple #[.int .i64 (va (er zs m i y) (share zs i.toNat (min y m))), .int .i64 (er zs m i y)]) ∧ Below w.heap.size w w' := by
  have A := hidden (ask_slow (cap := cap) h m i y)
  generalize va (er zs m i y) (share zs i.toNat (min y m)) = V at *
  generalize er zs m i y = E at *
  clear h
  go_enter Try.func14, Try.ntmps14
  go_wp2_with fail
  refine Calls.mono A.out ?_
  rintro e w1 ⟨rfl, hB⟩
  have HB := hidden hB
  clear hB
  go_wp2
  go_ret2
  exact ⟨rfl, HB.out⟩
theorem avoidX (h : Fl w a n zs) (i m : Int) : Calls Try.prog 16 #[.slice a n cap, .int .i64 i, .int .i64 m] w fun e w' => e = .returned (.tuple #[.int .i64 (va (er zs m i 0) (share zs i.toNat m)), .int .i64 (er zs m i 0)]) ∧ Below w.heap.size w w' := by
  have A := hidden (ask_avoid (cap := cap) h m i 0)
  generalize va (er zs m i 0) (share zs i.toNat m) = V at *
  generalize er zs m i 0 = E at *
  clear h
  go_enter Try.func16, Try.ntmps16
  go_wp2_with fail
  refine Calls.mono A.out ?_
  rintro e w1 ⟨rfl, hB⟩
  have HB := hidden hB
  clear hB
  go_wp2
  go_ret2
  exact ⟨rfl, HB.out⟩
theorem cutX (h : Fl w a n zs) (i m : Int) : Calls Try.prog 18 #[.slice a n cap, .int .i64 i, .int .i64 m] w fun e w' => e = .returned (.tuple #[.int .i64 (va (er zs m i 0) (cutV zs i.toNat m)), .int .i64 (er zs m i 0)]) ∧ Below w.heap.size w w' := by
  have A := hidden (ask_cut (cap := cap) h m i 0)
  generalize va (er zs m i 0) (cutV zs i.toNat m) = V at *
  generalize er zs m i 0 = E at *
  clear h
  go_enter Try.func18, Try.ntmps18
  go_wp2_with fail
  refine Calls.mono A.out ?_
  rintro e w1 ⟨rfl, hB⟩
  have HB := hidden hB
  clear hB
  go_wp2
  go_ret2
  exact ⟨rfl, HB.out⟩
theorem checkX (h : Fl w a n zs) (m : Int) : Calls Try.prog 11 #[.slice a n cap, .int .i64 m] w fun e w' => e = .returned (.int .i64 (chk zs m)) ∧ Below w.heap.size w w' := by
  have A := hidden (check (cap := cap) h m)
  generalize chk zs m = V at *
  clear h
  go_enter Try.func11, Try.ntmps11
  go_wp2_with fail
  refine Calls.mono A.out ?_
  rintro e w1 ⟨rfl, hB⟩
  have HB := hidden hB
  clear hB
  go_wp2
  go_ret
  exact ⟨rfl, HB.out⟩
end
end Go.Proofs.Ytbcdoilfmfckiaa.Co
