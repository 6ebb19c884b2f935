/-
  Timeouts: the document's Check, Start, Measure and Backoff.
  Conditions: the numbers are whole numbers of 64 bits.
-/
import Derived.Test.YthfhcepfomghoaaRtD
namespace Go.Proofs.Ythfhcepfomghoaa.Rt
open Go.ChangeShapes Go.WideShapes Go.ChangeAt Go.RowKit
open Ba (hidden Has Only)
open Ow (Own)
set_option linter.unusedVariables false

theorem chk0 {i mi ma : Int} {k : Bool} {s v t : Int} (h : okT i mi ma = true) (h2 : (0 ≤ s ∧ s ≤ 8388608) ∧ 0 ≤ v ∧ v ≤ 8388608) (h3 : mi ≤ t ∧ t ≤ ma) (h4 : k = false → s = 0 ∧ v = 0) : 0 = chk i mi ma k s v t := by
  have e : okS k s v = true := by
    unfold okS
    cases k
    · exact decide_eq_true (h4 rfl)
    · exact decide_eq_true h2
  unfold chk
  rw [h, e, decide_eq_true h3]
  rfl
theorem chk1 {i mi ma : Int} {k : Bool} {s v t : Int} (h : okT i mi ma = true) (h2 : ¬ (((0 ≤ s ∧ s ≤ 8388608) ∧ 0 ≤ v ∧ v ≤ 8388608) ∧ (mi ≤ t ∧ t ≤ ma) ∧ (k = false → s = 0 ∧ v = 0))) : 1 = chk i mi ma k s v t := by
  have hn : ¬ chk i mi ma k s v t = 0 := fun e => h2 ⟨(chk_zero e).2.1, (chk_zero e).2.2.1, (chk_zero e).2.2.2⟩
  unfold chk at hn ⊢
  rw [h] at hn ⊢
  cases h5 : (okS k s v && decide (mi ≤ t ∧ t ≤ ma)) with
  | false => rfl
  | true => rw [h5] at hn; exact absurd rfl hn
set_option maxHeartbeats 1000000 in
theorem rCheck (i mi ma : Int) (k : Bool) (s v t : Int) (w : World) : Calls Try.prog 14 #[.agg #[.int .i64 i, .int .i64 mi, .int .i64 ma], .agg #[.bool k, .int .i64 s, .int .i64 v, .int .i64 t]] w fun e w' => e = .returned (.int .i64 (chk i mi ma k s v t)) ∧ Below w.heap.size w w' := by
  have R := hidden (rBounds i mi ma)
  have O := hidden (own2 w i mi ma k s v t 23)
  cases h : okT i mi ma with
  | false =>
    rw [h] at R
    rw [show chk i mi ma k s v t = 100 by unfold chk; rw [h]; rfl]
    clear h
    go_enter Try.func14, Try.ntmps14
    go_wp2_with fail
    refine Calls.mono (R.out _) ?_
    rintro e w1 ⟨rfl, hB1⟩
    have O1 := hidden (O.out.later hB1).below
    clear hB1 O R
    go_wp2
    go_ret
    exact ⟨rfl, O1.out⟩
  | true =>
    rw [h] at R
    have C0 := hidden (@chk0 i mi ma k s v t h)
    have C1 := hidden (@chk1 i mi ma k s v t h)
    clear h
    generalize chk i mi ma k s v t = c at C0 C1 ⊢
    cases k
    all_goals
      go_enter Try.func14, Try.ntmps14
      go_wp2_with fail
      refine Calls.mono (R.out _) ?_
      rintro e w1 ⟨rfl, hB1⟩
      have O1 := hidden (O.out.later hB1)
      obtain ⟨c0, c1, c2, c3, c4, c5, c6⟩ := cells2 O1.out
      clear hB1 O R
      go_wp2
      all_goals go_ret
      all_goals (refine ⟨congrArg Ending.returned (congrArg (Value.int .i64) ?_), O1.out.below⟩)
      all_goals (try (rename_i hx; first | rw [bne_eq_false_iff_eq] at hx | rw [bne_iff_ne] at hx))
      all_goals (first | exact C0.out (by omega) (by omega) (fun _ => by omega) | exact C0.out (by omega) (by omega) (by simp) | exact C1.out (by omega) | (refine C1.out ?_; rintro ⟨_, _, h3⟩; have := h3 trivial; omega))
theorem startR (w : World) (i mi ma : Int) : Own w ((w.alloc (.cells #[.int .i64 i, .int .i64 mi, .int .i64 ma] 23)).alloc (.cells #[.bool false, .int .i64 0, .int .i64 0, .int .i64 0] 25)) [(w.heap.size + 1, #[.bool false, .int .i64 0, .int .i64 0, .int .i64 0], 25), (w.heap.size, #[.int .i64 i, .int .i64 mi, .int .i64 ma], 23)] := by
  have h := ((Own.refl w).alloc #[.int .i64 i, .int .i64 mi, .int .i64 ma] 23).alloc #[.bool false, .int .i64 0, .int .i64 0, .int .i64 0] 25
  simpa using h
set_option maxHeartbeats 1000000 in
theorem rStart (i mi ma : Int) (w : World) : Calls Try.prog 12 #[.agg #[.int .i64 i, .int .i64 mi, .int .i64 ma]] w fun e w' => e = .returned (tv (st i mi ma)) ∧ Below w.heap.size w w' := by
  have C := hidden (rBounds i mi ma)
  have O := hidden (startR w i mi ma)
  cases h : okT i mi ma with
  | true =>
    rw [show st i mi ma = (false, 0, 0, i, 0) by unfold st; rw [if_pos h]]
    rw [h] at C
    unfold tv
    simp only
    clear h
    go_enter Try.func12, Try.ntmps12
    go_wp2_with fail
    refine Calls.mono (C.out _) ?_
    rintro e w1 ⟨rfl, hB1⟩
    have O1 := hidden (O.out.later hB1)
    have d0 := O1.out.cell (.tail _ (.head _)) 0 rfl
    obtain ⟨⟨r0, r1, r2, r3⟩, f0, f1, f2, f3⟩ := ans O1.out (b := w.heap.size + 1) (.head _)
    clear hB1 O C
    go_wp2
    refine bodyPost_ret (v := .tuple #[.agg #[.bool false, .int .i64 0, .int .i64 0, .int .i64 i], .int .i64 0]) (by rw [results_cell_tmp rfl]; go_simp) rfl ⟨rfl, ?_⟩
    exact bel4 O1.out.below 1 _ _ _ _
  | false =>
    rw [show st i mi ma = no 100 by unfold st; rw [h]; rfl]
    rw [h] at C
    rw [show tv (no 100) = .tuple #[.agg #[.bool false, .int .i64 0, .int .i64 0, .int .i64 0], .int .i64 100] from rfl]
    clear h
    go_enter Try.func12, Try.ntmps12
    go_wp2_with fail
    refine Calls.mono (C.out _) ?_
    rintro e w1 ⟨rfl, hB1⟩
    have O1 := hidden (O.out.later hB1)
    obtain ⟨⟨r0, r1, r2, r3⟩, f0, f1, f2, f3⟩ := ans O1.out (b := w.heap.size + 1) (.head _)
    clear hB1 O C
    go_wp2
    refine bodyPost_ret (v := .tuple #[.agg #[.bool false, .int .i64 0, .int .i64 0, .int .i64 0], .int .i64 100]) (by rw [results_cell_tmp rfl]; go_simp) rfl ⟨rfl, ?_⟩
    exact bel4 O1.out.below 1 _ _ _ _
set_option maxHeartbeats 1000000 in
theorem rBackoff (i mi ma : Int) (k : Bool) (s v t : Int) (w : World) : Calls Try.prog 10 #[.agg #[.int .i64 i, .int .i64 mi, .int .i64 ma], .agg #[.bool k, .int .i64 s, .int .i64 v, .int .i64 t]] w fun e w' => e = .returned (tv (bo i mi ma k s v t)) ∧ Below w.heap.size w w' := by
  have C := hidden (rCheck i mi ma k s v t)
  have O := hidden (own3 w i mi ma k s v t)
  by_cases hc : chk i mi ma k s v t = 0
  · obtain ⟨hz1, hz2, hz3, hz4⟩ := chk_zero hc
    have ht : 0 ≤ t ∧ t ≤ 1048576 := by omega
    rw [show bo i mi ma k s v t = (k, s, v, min (2 * t) ma, 0) by unfold bo; rw [if_pos hc]]
    rw [hc] at C
    unfold tv
    simp only
    clear hc hz1 hz2 hz3 hz4
    go_enter Try.func10, Try.ntmps10
    go_wp2_with fail
    refine Calls.mono (C.out _) ?_
    rintro e w1 ⟨rfl, hB1⟩
    have O1 := hidden (O.out.later hB1)
    have d2 := O1.out.cell (.tail _ (.tail _ (.head _))) 2 rfl
    obtain ⟨⟨c0, c1, c2, c3⟩, g0, g1, g2, g3⟩ := ans O1.out (b := w.heap.size + 1) (.tail _ (.head _))
    obtain ⟨⟨r0, r1, r2, r3⟩, f0, f1, f2, f3⟩ := ans O1.out (b := w.heap.size + 2) (.head _)
    clear hB1 O C
    go_wp2
    refine bodyPost_ret (v := .tuple #[.agg #[.bool k, .int .i64 s, .int .i64 v, .int .i64 (min (2 * t) ma)], .int .i64 0]) (by rw [results_cell_tmp rfl]; go_simp) rfl ⟨rfl, ?_⟩
    exact bel4 (O1.out.below.setCell (Nat.le_add_right _ 1) _) 2 _ _ _ _
  · rw [show bo i mi ma k s v t = no (chk i mi ma k s v t) by unfold bo; rw [if_neg hc]]
    rw [show ∀ c, tv (no c) = .tuple #[.agg #[.bool false, .int .i64 0, .int .i64 0, .int .i64 0], .int .i64 c] from fun _ => rfl]
    have hc2 : (chk i mi ma k s v t == 0) = false := beq_eq_false_iff_ne.2 hc
    generalize chk i mi ma k s v t = c at C hc hc2 ⊢
    go_enter Try.func10, Try.ntmps10
    go_wp2_with fail
    refine Calls.mono (C.out _) ?_
    rintro e w1 ⟨rfl, hB1⟩
    have O1 := hidden (O.out.later hB1)
    obtain ⟨⟨r0, r1, r2, r3⟩, f0, f1, f2, f3⟩ := ans O1.out (b := w.heap.size + 2) (.head _)
    clear hB1 O C
    go_wp2
    refine bodyPost_ret (v := .tuple #[.agg #[.bool false, .int .i64 0, .int .i64 0, .int .i64 0], .int .i64 c]) (by rw [results_cell_tmp rfl]; go_simp) rfl ⟨rfl, ?_⟩
    exact bel4 O1.out.below 2 _ _ _ _
set_option maxHeartbeats 1000000 in
theorem rMeasure (i mi ma : Int) (k : Bool) (s v t n : Int) (w : World) : Calls Try.prog 8 #[.agg #[.int .i64 i, .int .i64 mi, .int .i64 ma], .agg #[.bool k, .int .i64 s, .int .i64 v, .int .i64 t], .int .i64 n] w fun e w' => e = .returned (tv (ms i mi ma k s v t n)) ∧ Below w.heap.size w w' := by
  have C := hidden (rCheck i mi ma k s v t)
  have O := hidden (own3 w i mi ma k s v t)
  by_cases hc : chk i mi ma k s v t = 0
  · obtain ⟨hz1, hz2, hz3, hz4⟩ := chk_zero hc
    rw [hc] at C
    by_cases hn : 0 ≤ n ∧ n ≤ 1048576
    · rw [show ms i mi ma k s v t n = (true, smI k s n, vaI k s v n, keepI (tripI (smI k s n) + max 1 (vaI k s v n)) mi ma, 0) by unfold ms; rw [if_pos hc, if_pos hn]]
      have hS := sm_in (k := k) hz2.1 hn
      have hV := va_in (k := k) hz2.1 hz2.2 hn
      have eS : smI k s n = (bif k then s + (n - s / 8) else 8 * n) := by unfold smI tripI; rw [show max s 0 = s by omega]
      have eV : vaI k s v n = (bif k then v - v / 4 + absI (n - s / 8) else 2 * n) := by unfold vaI tripI; rw [show max s 0 = s by omega]; cases k; rfl; simp only [cond_true]; omega
      have eT : keepI (tripI (smI k s n) + max 1 (vaI k s v n)) mi ma = min (max (smI k s n / 8 + max (vaI k s v n) 1) mi) ma := by
        unfold keepI tripI; rw [show max (smI k s n) 0 = smI k s n by omega]; omega
      rw [eT]
      unfold tv
      simp only
      cases k
      · simp only [cond_false] at eS eV
        rw [eS, eV, show 8 * n / 8 = n by omega]
        clear hc hz1 hz2 hz3 hz4 hS hV eS eV eT
        go_enter Try.func8, Try.ntmps8
        go_wp2_with fail
        refine Calls.mono (C.out _) ?_
        rintro e w1 ⟨rfl, hB1⟩
        have O1 := hidden (O.out.later hB1)
        have hl2 : w.heap.size + 2 < w1.heap.size := (O1.out.lt (.head _))
        have hl1 : w.heap.size + 1 < w1.heap.size := by omega
        have hl0 : w.heap.size < w1.heap.size := by omega
        have d1 := O1.out.cell (.tail _ (.tail _ (.head _))) 1 rfl
        have d2 := O1.out.cell (.tail _ (.tail _ (.head _))) 2 rfl
        obtain ⟨⟨c0, c1, c2, c3⟩, g0, g1, g2, g3⟩ := ans O1.out (b := w.heap.size + 1) (.tail _ (.head _))
        obtain ⟨⟨r0, r1, r2, r3⟩, f0, f1, f2, f3⟩ := ans O1.out (b := w.heap.size + 2) (.head _)
        clear hB1 O C
        go_wp2
        refine bodyPost_ret (v := .tuple #[.agg #[.bool true, .int .i64 (8 * n), .int .i64 (2 * n), .int .i64 (min (max (n + max (2 * n) 1) mi) ma)], .int .i64 0]) (by rw [results_cell_tmp rfl]; go_simp) rfl ⟨rfl, ?_⟩
        exact (bel4 O1.out.below 2 _ _ _ _).alloc (bel4 O1.out.below 2 _ _ _ _).size _
      · simp only [cond_true] at eS eV
        rw [eS] at hS
        rw [eV] at hV
        rw [eS, eV]
        have hs := hz2.1
        have hv := hz2.2
        have hN := hn
        by_cases hd : n - s / 8 < 0
        · have eA : absI (n - s / 8) = -(n - s / 8) := by unfold absI; omega
          rw [eA]
          rw [eA] at hV
          clear hc hz1 hz2 hz3 hz4 eS eV eT eA
          go_enter Try.func8, Try.ntmps8
          go_wp2_with fail
          refine Calls.mono (C.out _) ?_
          rintro e w1 ⟨rfl, hB1⟩
          have O1 := hidden (O.out.later hB1)
          have hl2 : w.heap.size + 2 < w1.heap.size := (O1.out.lt (.head _))
          have hl1 : w.heap.size + 1 < w1.heap.size := by omega
          have hl0 : w.heap.size < w1.heap.size := by omega
          have d1 := O1.out.cell (.tail _ (.tail _ (.head _))) 1 rfl
          have d2 := O1.out.cell (.tail _ (.tail _ (.head _))) 2 rfl
          obtain ⟨⟨c0, c1, c2, c3⟩, g0, g1, g2, g3⟩ := ans O1.out (b := w.heap.size + 1) (.tail _ (.head _))
          obtain ⟨⟨r0, r1, r2, r3⟩, f0, f1, f2, f3⟩ := ans O1.out (b := w.heap.size + 2) (.head _)
          clear hB1 O C
          go_wp2
          refine bodyPost_ret (v := .tuple #[.agg #[.bool true, .int .i64 (s + (n - s / 8)), .int .i64 (v - v / 4 + -(n - s / 8)), .int .i64 (min (max ((s + (n - s / 8)) / 8 + max (v - v / 4 + -(n - s / 8)) 1) mi) ma)], .int .i64 0]) (by rw [results_cell_tmp rfl]; go_simp) rfl ⟨rfl, ?_⟩
          exact (bel4 O1.out.below 2 _ _ _ _).alloc (bel4 O1.out.below 2 _ _ _ _).size _
        · have eA : absI (n - s / 8) = n - s / 8 := by unfold absI; omega
          rw [eA]
          rw [eA] at hV
          have hd2 : 0 ≤ n - s / 8 := by omega
          clear hc hz1 hz2 hz3 hz4 eS eV eT eA hd
          go_enter Try.func8, Try.ntmps8
          go_wp2_with fail
          refine Calls.mono (C.out _) ?_
          rintro e w1 ⟨rfl, hB1⟩
          have O1 := hidden (O.out.later hB1)
          have hl2 : w.heap.size + 2 < w1.heap.size := (O1.out.lt (.head _))
          have hl1 : w.heap.size + 1 < w1.heap.size := by omega
          have hl0 : w.heap.size < w1.heap.size := by omega
          have d1 := O1.out.cell (.tail _ (.tail _ (.head _))) 1 rfl
          have d2 := O1.out.cell (.tail _ (.tail _ (.head _))) 2 rfl
          obtain ⟨⟨c0, c1, c2, c3⟩, g0, g1, g2, g3⟩ := ans O1.out (b := w.heap.size + 1) (.tail _ (.head _))
          obtain ⟨⟨r0, r1, r2, r3⟩, f0, f1, f2, f3⟩ := ans O1.out (b := w.heap.size + 2) (.head _)
          clear hB1 O C
          go_wp2
          refine bodyPost_ret (v := .tuple #[.agg #[.bool true, .int .i64 (s + (n - s / 8)), .int .i64 (v - v / 4 + (n - s / 8)), .int .i64 (min (max ((s + (n - s / 8)) / 8 + max (v - v / 4 + (n - s / 8)) 1) mi) ma)], .int .i64 0]) (by rw [results_cell_tmp rfl]; go_simp) rfl ⟨rfl, ?_⟩
          exact (bel4 O1.out.below 2 _ _ _ _).alloc (bel4 O1.out.below 2 _ _ _ _).size _
    · rw [show ms i mi ma k s v t n = no 5 by unfold ms; rw [if_pos hc, if_neg hn]]
      rw [show ∀ c, tv (no c) = .tuple #[.agg #[.bool false, .int .i64 0, .int .i64 0, .int .i64 0], .int .i64 c] from fun _ => rfl]
      clear hc hz1 hz2 hz3 hz4
      by_cases h0 : n < 0
      · clear hn
        go_enter Try.func8, Try.ntmps8
        go_wp2_with fail
        refine Calls.mono (C.out _) ?_
        rintro e w1 ⟨rfl, hB1⟩
        have O1 := hidden (O.out.later hB1)
        have hl2 : w.heap.size + 2 < w1.heap.size := (O1.out.lt (.head _))
        have hl1 : w.heap.size + 1 < w1.heap.size := by omega
        have hl0 : w.heap.size < w1.heap.size := by omega
        have d1 := O1.out.cell (.tail _ (.tail _ (.head _))) 1 rfl
        have d2 := O1.out.cell (.tail _ (.tail _ (.head _))) 2 rfl
        obtain ⟨⟨c0, c1, c2, c3⟩, g0, g1, g2, g3⟩ := ans O1.out (b := w.heap.size + 1) (.tail _ (.head _))
        obtain ⟨⟨r0, r1, r2, r3⟩, f0, f1, f2, f3⟩ := ans O1.out (b := w.heap.size + 2) (.head _)
        clear hB1 O C
        go_wp2
        refine bodyPost_ret (v := .tuple #[.agg #[.bool false, .int .i64 0, .int .i64 0, .int .i64 0], .int .i64 5]) (by rw [results_cell_tmp rfl]; go_simp) rfl ⟨rfl, ?_⟩
        exact bel4 O1.out.below 2 _ _ _ _
      · have h1 : 1048576 < n := by omega
        have h2 : 0 ≤ n := by omega
        clear hn h0
        go_enter Try.func8, Try.ntmps8
        go_wp2_with fail
        refine Calls.mono (C.out _) ?_
        rintro e w1 ⟨rfl, hB1⟩
        have O1 := hidden (O.out.later hB1)
        have hl2 : w.heap.size + 2 < w1.heap.size := (O1.out.lt (.head _))
        have hl1 : w.heap.size + 1 < w1.heap.size := by omega
        have hl0 : w.heap.size < w1.heap.size := by omega
        have d1 := O1.out.cell (.tail _ (.tail _ (.head _))) 1 rfl
        have d2 := O1.out.cell (.tail _ (.tail _ (.head _))) 2 rfl
        obtain ⟨⟨c0, c1, c2, c3⟩, g0, g1, g2, g3⟩ := ans O1.out (b := w.heap.size + 1) (.tail _ (.head _))
        obtain ⟨⟨r0, r1, r2, r3⟩, f0, f1, f2, f3⟩ := ans O1.out (b := w.heap.size + 2) (.head _)
        clear hB1 O C
        go_wp2
        refine bodyPost_ret (v := .tuple #[.agg #[.bool false, .int .i64 0, .int .i64 0, .int .i64 0], .int .i64 5]) (by rw [results_cell_tmp rfl]; go_simp) rfl ⟨rfl, ?_⟩
        exact bel4 O1.out.below 2 _ _ _ _
  · rw [show ms i mi ma k s v t n = no (chk i mi ma k s v t) by unfold ms; rw [if_neg hc]]
    rw [show ∀ c, tv (no c) = .tuple #[.agg #[.bool false, .int .i64 0, .int .i64 0, .int .i64 0], .int .i64 c] from fun _ => rfl]
    have hc2 : (chk i mi ma k s v t == 0) = false := beq_eq_false_iff_ne.2 hc
    generalize chk i mi ma k s v t = c at C hc hc2 ⊢
    go_enter Try.func8, Try.ntmps8
    go_wp2_with fail
    refine Calls.mono (C.out _) ?_
    rintro e w1 ⟨rfl, hB1⟩
    have O1 := hidden (O.out.later hB1)
    obtain ⟨⟨r0, r1, r2, r3⟩, f0, f1, f2, f3⟩ := ans O1.out (b := w.heap.size + 2) (.head _)
    clear hB1 O C
    go_wp2
    refine bodyPost_ret (v := .tuple #[.agg #[.bool false, .int .i64 0, .int .i64 0, .int .i64 0], .int .i64 c]) (by rw [results_cell_tmp rfl]; go_simp) rfl ⟨rfl, ?_⟩
    exact bel4 O1.out.below 2 _ _ _ _
end Go.Proofs.Ythfhcepfomghoaa.Rt
