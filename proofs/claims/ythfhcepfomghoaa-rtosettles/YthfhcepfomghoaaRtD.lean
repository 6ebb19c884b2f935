/-
  Timeouts: Check, Start, Measure and Backoff.
  Conditions: the numbers are whole numbers of 64 bits.
-/
import Derived.Test.YthfhcepfomghoaaRtC
namespace Go.Proofs.Ythfhcepfomghoaa.Rt
open Go.ChangeShapes Go.WideShapes Go.ChangeAt Go.RowKit
open Ba (hidden Has Only)
open Ow (Own)
set_option linter.unusedVariables false

/-- a state and an error's number, as a call answers them -/
abbrev Rn := Bool × Int × Int × Int × Int
def tv (x : Rn) : Value := .tuple #[.agg #[.bool x.1, .int .i64 x.2.1, .int .i64 x.2.2.1, .int .i64 x.2.2.2.1], .int .i64 x.2.2.2.2]
def no (e : Int) : Rn := (false, 0, 0, 0, e)
/-- a measurement -/
def ms (i mi ma : Int) (k : Bool) (s v t n : Int) : Rn :=
  if chk i mi ma k s v t = 0 then (if 0 ≤ n ∧ n ≤ 1048576 then (true, smI k s n, vaI k s v n, keepI (tripI (smI k s n) + max 1 (vaI k s v n)) mi ma, 0) else no 5) else no (chk i mi ma k s v t)
/-- a backoff -/
def bo (i mi ma : Int) (k : Bool) (s v t : Int) : Rn := if chk i mi ma k s v t = 0 then (k, s, v, min (2 * t) ma, 0) else no (chk i mi ma k s v t)
/-- a beginning -/
def st (i mi ma : Int) : Rn := if okT i mi ma = true then (false, 0, 0, i, 0) else no 100
theorem chk_zero {i mi ma : Int} {k : Bool} {s v t : Int} (h : chk i mi ma k s v t = 0) : (1 ≤ mi ∧ mi ≤ i ∧ i ≤ ma ∧ ma ≤ 1048576) ∧ ((0 ≤ s ∧ s ≤ 8388608) ∧ 0 ≤ v ∧ v ≤ 8388608) ∧ (mi ≤ t ∧ t ≤ ma) ∧ (k = false → s = 0 ∧ v = 0) := by
  unfold chk okT okS at h
  cases h1 : decide (1 ≤ mi ∧ mi ≤ i ∧ i ≤ ma ∧ ma ≤ 1048576) with
  | false => rw [h1] at h; simp only [cond_false] at h; exact absurd h (by decide)
  | true =>
    rw [h1] at h
    simp only [cond_true] at h
    have g1 := of_decide_eq_true h1
    cases h2 : decide (mi ≤ t ∧ t ≤ ma) with
    | false => rw [h2, Bool.and_false] at h; exact absurd h (by decide)
    | true =>
      rw [h2] at h
      have g2 := of_decide_eq_true h2
      cases k
      · cases h3 : decide (s = 0 ∧ v = 0) with
        | false => simp only [cond_false, h3] at h; exact absurd h (by decide)
        | true => have g3 := of_decide_eq_true h3; exact ⟨g1, by omega, g2, fun _ => g3⟩
      · cases h3 : decide ((0 ≤ s ∧ s ≤ 8388608) ∧ 0 ≤ v ∧ v ≤ 8388608) with
        | false => simp only [cond_true, h3] at h; exact absurd h (by decide)
        | true => exact ⟨g1, of_decide_eq_true h3, g2, fun e => by cases e⟩
/-- the answer's block is set -/
theorem bel4 {w w1 : World} (h : Below w.heap.size w w1) (b : Nat) (u0 u1 u2 u3 : Value) : Below w.heap.size w ((((w1.setCell ⟨w.heap.size + b, 0, none⟩ u0).setCell ⟨w.heap.size + b, 1, none⟩ u1).setCell ⟨w.heap.size + b, 2, none⟩ u2).setCell ⟨w.heap.size + b, 3, none⟩ u3) :=
  (((h.setCell (Nat.le_add_right _ _) _).setCell (Nat.le_add_right _ _) _).setCell (Nat.le_add_right _ _) _).setCell (Nat.le_add_right _ _) _
theorem new_ne {w w1 : World} {L : List Ow.Bk} (h : Own w w1 L) : ∀ x ∈ L, x.1 ≠ w1.heap.size := fun x hx e => by
  have := (h.2 x hx).2.lt
  omega
/-- what came in, and the answer's block -/
abbrev B3 (w : World) (i mi ma : Int) (k : Bool) (s v t : Int) : List Ow.Bk := (w.heap.size + 2, #[.bool false, .int .i64 0, .int .i64 0, .int .i64 0], 25) :: B2 w i mi ma k s v t 23
theorem own3 (w : World) (i mi ma : Int) (k : Bool) (s v t : Int) : Own w (((w.alloc (.cells #[.int .i64 i, .int .i64 mi, .int .i64 ma] 23)).alloc (.cells #[.bool k, .int .i64 s, .int .i64 v, .int .i64 t] 25)).alloc (.cells #[.bool false, .int .i64 0, .int .i64 0, .int .i64 0] 25)) (B3 w i mi ma k s v t) := by
  have h := (own2 w i mi ma k s v t 23).alloc #[.bool false, .int .i64 0, .int .i64 0, .int .i64 0] 25
  simpa using h
/-- the answer's block may be set -/
theorem ans {w w1 : World} {L : List Ow.Bk} {b : Nat} {k : Bool} {s v t : Int} (h : Own w w1 L) (hx : (b, #[.bool k, .int .i64 s, .int .i64 v, .int .i64 t], 25) ∈ L) :
    (w1.cell? ⟨b, 0, none⟩ = some (.bool k) ∧ w1.cell? ⟨b, 1, none⟩ = some (.int .i64 s) ∧ w1.cell? ⟨b, 2, none⟩ = some (.int .i64 v) ∧ w1.cell? ⟨b, 3, none⟩ = some (.int .i64 t)) ∧ w1.frozen? ⟨b, 0, none⟩ = false ∧ w1.frozen? ⟨b, 1, none⟩ = false ∧ w1.frozen? ⟨b, 2, none⟩ = false ∧ w1.frozen? ⟨b, 3, none⟩ = false :=
  ⟨⟨h.cell hx 0 rfl, h.cell hx 1 rfl, h.cell hx 2 rfl, h.cell hx 3 rfl⟩, h.frozen hx 0, h.frozen hx 1, h.frozen hx 2, h.frozen hx 3⟩
theorem checkX (i mi ma : Int) (k : Bool) (s v t : Int) (w : World) : Calls Try.prog 13 #[.agg #[.int .i64 i, .int .i64 mi, .int .i64 ma], .agg #[.bool k, .int .i64 s, .int .i64 v, .int .i64 t]] w fun e w' => e = .returned (.int .i64 (chk i mi ma k s v t)) ∧ Below w.heap.size w w' := by
  have T := hidden (take i mi ma k s v t)
  have O := hidden (own2 w i mi ma k s v t 23)
  generalize chk i mi ma k s v t = c at T ⊢
  go_enter Try.func13, Try.ntmps13
  go_wp2_with fail
  refine Calls.mono (T.out _) ?_
  rintro e w1 ⟨rfl, hB1⟩
  have O1 := hidden (O.out.later hB1).below
  clear hB1 O T
  go_wp2
  go_ret
  exact ⟨rfl, O1.out.alloc O1.out.size _⟩
set_option maxHeartbeats 1000000 in
theorem measureX (i mi ma : Int) (k : Bool) (s v t n : Int) (w : World) : Calls Try.prog 7 #[.agg #[.int .i64 i, .int .i64 mi, .int .i64 ma], .agg #[.bool k, .int .i64 s, .int .i64 v, .int .i64 t], .int .i64 n] w fun e w' => e = .returned (tv (ms i mi ma k s v t n)) ∧ Below w.heap.size w w' := by
  have T := hidden (take i mi ma k s v t)
  have O := hidden (own3 w i mi ma k s v t)
  have W := hidden (within n 0 1048576)
  rw [inB_eq (by decide)] at W
  by_cases hc : chk i mi ma k s v t = 0
  · have hz := chk_zero hc
    by_cases hn : 0 ≤ n ∧ n ≤ 1048576
    · have E : ms i mi ma k s v t n = (true, smI k s n, vaI k s v n, keepI (tripI (smI k s n) + max 1 (vaI k s v n)) mi ma, 0) := by unfold ms; rw [if_pos hc, if_pos hn]
      have MS : Hid (∀ W b, Has W b #[.int .i64 i, .int .i64 mi, .int .i64 ma, .bool k, .int .i64 s, .int .i64 v, .int .i64 t] 39 → Calls Try.prog 20 #[.pointer (some ⟨b, 0, none⟩), .int .i64 n] W fun e w' => e = .returned (.tuple #[]) ∧ Has w' b #[.int .i64 i, .int .i64 mi, .int .i64 ma, .bool true, .int .i64 (smI k s n), .int .i64 (vaI k s v n), .int .i64 (keepI (tripI (smI k s n) + max 1 (vaI k s v n)) mi ma)] 39 ∧ Only [b] W w') := fun W b h => by
        cases k
        · exact measureF h hn rfl rfl
        · exact measureT h hz.2.1.1 hz.2.1.2 hn rfl rfl
      rw [E]
      rw [hc] at T
      rw [decide_eq_true hn] at W
      unfold tv
      simp only
      generalize smI k s n = S at MS ⊢
      generalize vaI k s v n = V at MS ⊢
      generalize keepI (tripI S + max 1 V) mi ma = U at MS ⊢
      clear E hc hz hn
      go_enter Try.func7, Try.ntmps7
      go_wp2_with fail
      refine Calls.mono (T.out _) ?_
      rintro e w1 ⟨rfl, hB1⟩
      have O1 := hidden (O.out.later hB1)
      have hl1 : w.heap.size + 2 < w1.heap.size := (O1.out.lt (.head _))
      clear hB1 O T
      go_wp2_with fail
      refine Calls.mono (W.out _) ?_
      rintro e w' ⟨rfl, rfl⟩
      go_wp2_with fail
      refine Calls.mono (MS.out _ _ (Has.new w1 _ _)) ?_
      rintro e w2 ⟨rfl, hH, hO⟩
      have O2 := hidden ((O1.out.alloc #[.int .i64 i, .int .i64 mi, .int .i64 ma, .bool k, .int .i64 s, .int .i64 v, .int .i64 t] 39).turn hO hH (new_ne O1.out))
      obtain ⟨d3, d4, d5, d6⟩ := est4 hH
      obtain ⟨⟨r0, r1, r2, r3⟩, f0, f1, f2, f3⟩ := ans O2.out (b := w.heap.size + 2) (.tail _ (.head _))
      clear hH hO O1 MS W
      go_wp2
      refine bodyPost_ret (v := .tuple #[.agg #[.bool true, .int .i64 S, .int .i64 V, .int .i64 U], .int .i64 0]) (by rw [results_cell_tmp rfl]; go_simp) rfl ⟨rfl, ?_⟩
      exact bel4 O2.out.below 2 _ _ _ _
    · have E : ms i mi ma k s v t n = no 5 := by unfold ms; rw [if_pos hc, if_neg hn]
      rw [E]
      rw [hc] at T
      rw [decide_eq_false hn] at W
      rw [show tv (no 5) = .tuple #[.agg #[.bool false, .int .i64 0, .int .i64 0, .int .i64 0], .int .i64 5] from rfl]
      clear E hc hz hn
      go_enter Try.func7, Try.ntmps7
      go_wp2_with fail
      refine Calls.mono (T.out _) ?_
      rintro e w1 ⟨rfl, hB1⟩
      have O1 := hidden (O.out.later hB1).below
      have hl1 : w.heap.size + 2 < w1.heap.size := ((O.out.later hB1).lt (.head _))
      obtain ⟨⟨r0, r1, r2, r3⟩, f0, f1, f2, f3⟩ := ans (O.out.later hB1) (b := w.heap.size + 2) (.head _)
      clear hB1 O T
      go_wp2_with fail
      refine Calls.mono (W.out _) ?_
      rintro e w' ⟨rfl, rfl⟩
      go_wp2
      refine bodyPost_ret (v := .tuple #[.agg #[.bool false, .int .i64 0, .int .i64 0, .int .i64 0], .int .i64 5]) (by rw [results_cell_tmp rfl]; go_simp) rfl ⟨rfl, ?_⟩
      exact (bel4 O1.out 2 _ _ _ _).alloc (bel4 O1.out 2 _ _ _ _).size _
  · have E : ms i mi ma k s v t n = no (chk i mi ma k s v t) := by unfold ms; rw [if_neg hc]
    rw [E]
    rw [show ∀ c, tv (no c) = .tuple #[.agg #[.bool false, .int .i64 0, .int .i64 0, .int .i64 0], .int .i64 c] from fun _ => rfl]
    have hc2 : (chk i mi ma k s v t == 0) = false := beq_eq_false_iff_ne.2 hc
    clear E W
    generalize chk i mi ma k s v t = c at T hc hc2 ⊢
    go_enter Try.func7, Try.ntmps7
    go_wp2_with fail
    refine Calls.mono (T.out _) ?_
    rintro e w1 ⟨rfl, hB1⟩
    have O1 := hidden (O.out.later hB1).below
    have hl1 : w.heap.size + 2 < w1.heap.size := ((O.out.later hB1).lt (.head _))
    obtain ⟨⟨r0, r1, r2, r3⟩, f0, f1, f2, f3⟩ := ans (O.out.later hB1) (b := w.heap.size + 2) (.head _)
    clear hB1 O T
    go_wp2
    refine bodyPost_ret (v := .tuple #[.agg #[.bool false, .int .i64 0, .int .i64 0, .int .i64 0], .int .i64 c]) (by rw [results_cell_tmp rfl]; go_simp) rfl ⟨rfl, ?_⟩
    exact (bel4 O1.out 2 _ _ _ _).alloc (bel4 O1.out 2 _ _ _ _).size _
set_option maxHeartbeats 1000000 in
theorem backoffX (i mi ma : Int) (k : Bool) (s v t : Int) (w : World) : Calls Try.prog 9 #[.agg #[.int .i64 i, .int .i64 mi, .int .i64 ma], .agg #[.bool k, .int .i64 s, .int .i64 v, .int .i64 t]] w fun e w' => e = .returned (tv (bo i mi ma k s v t)) ∧ Below w.heap.size w w' := by
  have T := hidden (take i mi ma k s v t)
  have O := hidden (own3 w i mi ma k s v t)
  by_cases hc : chk i mi ma k s v t = 0
  · obtain ⟨hz1, hz2, hz3, hz4⟩ := chk_zero hc
    have E : bo i mi ma k s v t = (k, s, v, keepI (2 * t) mi ma, 0) := by unfold bo; rw [if_pos hc, show min (2 * t) ma = keepI (2 * t) mi ma by unfold keepI; omega]
    have WT : Hid (∀ W b, Has W b #[.int .i64 i, .int .i64 mi, .int .i64 ma, .bool k, .int .i64 s, .int .i64 v, .int .i64 t] 39 → Calls Try.prog 21 #[.pointer (some ⟨b, 0, none⟩), .int .i64 (2 * t)] W fun e w' => e = .returned (.tuple #[]) ∧ Has w' b #[.int .i64 i, .int .i64 mi, .int .i64 ma, .bool k, .int .i64 s, .int .i64 v, .int .i64 (keepI (2 * t) mi ma)] 39 ∧ Only [b] W w') := fun W b h => wait h
    have ht : 0 ≤ t ∧ t ≤ 1048576 := by omega
    rw [E]
    rw [hc] at T
    unfold tv
    simp only
    generalize keepI (2 * t) mi ma = U at WT ⊢
    clear E hc hz1 hz2 hz3 hz4
    go_enter Try.func9, Try.ntmps9
    go_wp2_with fail
    refine Calls.mono (T.out _) ?_
    rintro e w1 ⟨rfl, hB1⟩
    have O1 := hidden (O.out.later hB1)
    have hl1 : w.heap.size + 2 < w1.heap.size := (O1.out.lt (.head _))
    clear hB1 O T
    go_wp2_with fail
    refine Calls.mono (WT.out _ _ (Has.new w1 _ _)) ?_
    rintro e w2 ⟨rfl, hH, hO⟩
    have O2 := hidden ((O1.out.alloc #[.int .i64 i, .int .i64 mi, .int .i64 ma, .bool k, .int .i64 s, .int .i64 v, .int .i64 t] 39).turn hO hH (new_ne O1.out))
    obtain ⟨d3, d4, d5, d6⟩ := est4 hH
    obtain ⟨⟨r0, r1, r2, r3⟩, f0, f1, f2, f3⟩ := ans O2.out (b := w.heap.size + 2) (.tail _ (.head _))
    clear hH hO O1 WT
    go_wp2
    refine bodyPost_ret (v := .tuple #[.agg #[.bool k, .int .i64 s, .int .i64 v, .int .i64 U], .int .i64 0]) (by rw [results_cell_tmp rfl]; go_simp) rfl ⟨rfl, ?_⟩
    exact bel4 O2.out.below 2 _ _ _ _
  · have E : bo i mi ma k s v t = no (chk i mi ma k s v t) := by unfold bo; rw [if_neg hc]
    rw [E]
    rw [show ∀ c, tv (no c) = .tuple #[.agg #[.bool false, .int .i64 0, .int .i64 0, .int .i64 0], .int .i64 c] from fun _ => rfl]
    have hc2 : (chk i mi ma k s v t == 0) = false := beq_eq_false_iff_ne.2 hc
    clear E
    generalize chk i mi ma k s v t = c at T hc hc2 ⊢
    go_enter Try.func9, Try.ntmps9
    go_wp2_with fail
    refine Calls.mono (T.out _) ?_
    rintro e w1 ⟨rfl, hB1⟩
    have O1 := hidden (O.out.later hB1).below
    have hl1 : w.heap.size + 2 < w1.heap.size := ((O.out.later hB1).lt (.head _))
    obtain ⟨⟨r0, r1, r2, r3⟩, f0, f1, f2, f3⟩ := ans (O.out.later hB1) (b := w.heap.size + 2) (.head _)
    clear hB1 O T
    go_wp2
    refine bodyPost_ret (v := .tuple #[.agg #[.bool false, .int .i64 0, .int .i64 0, .int .i64 0], .int .i64 c]) (by rw [results_cell_tmp rfl]; go_simp) rfl ⟨rfl, ?_⟩
    exact (bel4 O1.out 2 _ _ _ _).alloc (bel4 O1.out 2 _ _ _ _).size _
theorem chk_start (i mi ma : Int) : chk i mi ma false 0 0 i = if okT i mi ma = true then 0 else 100 := by
  unfold chk
  cases h : okT i mi ma with
  | false => rfl
  | true =>
    have h1 := of_decide_eq_true h
    rw [decide_eq_true (show mi ≤ i ∧ i ≤ ma by omega)]
    rfl
theorem startB (w : World) (i mi ma : Int) : Own w (((w.alloc (.cells #[.int .i64 i, .int .i64 mi, .int .i64 ma] 23)).alloc (.cells #[.bool false, .int .i64 0, .int .i64 0, .int .i64 0] 25)).alloc (.cells #[.bool false, .int .i64 0, .int .i64 0, .int .i64 i] 25)) [(w.heap.size + 2, #[.bool false, .int .i64 0, .int .i64 0, .int .i64 i], 25), (w.heap.size + 1, #[.bool false, .int .i64 0, .int .i64 0, .int .i64 0], 25), (w.heap.size, #[.int .i64 i, .int .i64 mi, .int .i64 ma], 23)] := by
  have h := (((Own.refl w).alloc #[.int .i64 i, .int .i64 mi, .int .i64 ma] 23).alloc #[.bool false, .int .i64 0, .int .i64 0, .int .i64 0] 25).alloc #[.bool false, .int .i64 0, .int .i64 0, .int .i64 i] 25
  simpa using h
set_option maxHeartbeats 1000000 in
theorem startX (i mi ma : Int) (w : World) : Calls Try.prog 11 #[.agg #[.int .i64 i, .int .i64 mi, .int .i64 ma]] w fun e w' => e = .returned (tv (st i mi ma)) ∧ Below w.heap.size w w' := by
  have C := hidden (checkX i mi ma false 0 0 i)
  have O := hidden (startB w i mi ma)
  rw [chk_start] at C
  by_cases h : okT i mi ma = true
  · rw [show st i mi ma = (false, 0, 0, i, 0) by unfold st; rw [if_pos h]]
    rw [if_pos h] at C
    unfold tv
    simp only
    clear h
    go_enter Try.func11, Try.ntmps11
    go_wp2_with fail
    refine Calls.mono (C.out _) ?_
    rintro e w1 ⟨rfl, hB1⟩
    have O1 := hidden (O.out.later hB1)
    obtain ⟨⟨d0, d1, d2, d3⟩, _, _, _, _⟩ := ans O1.out (b := w.heap.size + 2) (.head _)
    obtain ⟨⟨r0, r1, r2, r3⟩, f0, f1, f2, f3⟩ := ans O1.out (b := w.heap.size + 1) (.tail _ (.head _))
    clear hB1 O C
    go_wp2
    refine bodyPost_ret (v := .tuple #[.agg #[.bool false, .int .i64 0, .int .i64 0, .int .i64 i], .int .i64 0]) (by rw [results_cell_tmp rfl]; go_simp) rfl ⟨rfl, ?_⟩
    exact bel4 O1.out.below 1 _ _ _ _
  · rw [show st i mi ma = no 100 by unfold st; rw [if_neg h]]
    rw [if_neg h] at C
    rw [show tv (no 100) = .tuple #[.agg #[.bool false, .int .i64 0, .int .i64 0, .int .i64 0], .int .i64 100] from rfl]
    clear h
    go_enter Try.func11, Try.ntmps11
    go_wp2_with fail
    refine Calls.mono (C.out _) ?_
    rintro e w1 ⟨rfl, hB1⟩
    have O1 := hidden (O.out.later hB1)
    obtain ⟨⟨r0, r1, r2, r3⟩, f0, f1, f2, f3⟩ := ans O1.out (b := w.heap.size + 1) (.tail _ (.head _))
    clear hB1 O C
    go_wp2
    refine bodyPost_ret (v := .tuple #[.agg #[.bool false, .int .i64 0, .int .i64 0, .int .i64 0], .int .i64 100]) (by rw [results_cell_tmp rfl]; go_simp) rfl ⟨rfl, ?_⟩
    exact bel4 O1.out.below 1 _ _ _ _
end Go.Proofs.Ythfhcepfomghoaa.Rt
