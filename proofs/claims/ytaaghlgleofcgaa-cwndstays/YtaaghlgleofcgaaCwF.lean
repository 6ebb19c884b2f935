/-
  Windows: Check, Open, Space; the document's functions; a window that is known.
  Conditions: Space's number is one of 64 bits.
-/
import Derived.Test.YtaaghlgleofcgaaCwE
namespace Go.Proofs.Ytaaghlgleofcgaa.Cw
open Go.ChangeShapes Go.WideShapes Go.ChangeAt Go.RowKit
open Ba (hidden Has Only)
open Ow (Own)
set_option linter.unusedVariables false

def I64 (n : Int) : Prop := -9223372036854775808 ≤ n ∧ n ≤ 9223372036854775807
theorem of_wf64 {n : Int} (h : (Lit.int .i64 n).wf = true) : I64 n := by
  simp [Lit.wf, IntKind.min, IntKind.max, IntKind.signed, IntKind.bits] at h
  exact h
theorem ow1 (w : World) (c s p m k : Int) : Own w (w.alloc (.cells #[.int .i64 c, .int .i64 s, .int .i64 p, .int .i64 m, .int .i64 k] 23)) [(w.heap.size, #[.int .i64 c, .int .i64 s, .int .i64 p, .int .i64 m, .int .i64 k], 23)] := (Own.refl w).alloc _ _
theorem checkX (c s p m k : Int) (w : World) : Calls Try.prog 22 #[.agg #[.int .i64 c, .int .i64 s, .int .i64 p, .int .i64 m, .int .i64 k]] w fun e w' => e = .returned (.int .i64 (chk c s p m k)) ∧ Below w.heap.size w w' := by
  have C := hidden (check c s p m k)
  have O := hidden (ow1 w c s p m k)
  generalize chk c s p m k = x at C ⊢
  go_enter Try.func22, Try.ntmps22
  go_wp2_with fail
  refine Calls.mono (C.out _) ?_
  rintro e w1 ⟨rfl, hB1⟩
  have O1 := hidden (O.out.later hB1).below
  clear hB1 O C
  go_wp2
  go_ret
  exact ⟨rfl, O1.out⟩
/-- what is left of a window -/
def spV (c s p m k o : Int) : Int := if mayP c s p m k then (if 0 ≤ o then max 0 (c - o) else 0) else 0
theorem spaceX (c s p m k : Int) {o : Int} (ho : I64 o) (w : World) : Calls Try.prog 24 #[.agg #[.int .i64 c, .int .i64 s, .int .i64 p, .int .i64 m, .int .i64 k], .int .i64 o] w fun e w' => e = .returned (.int .i64 (spV c s p m k o)) ∧ Below w.heap.size w w' := by
  have C := hidden (checkX c s p m k)
  have O := hidden (ow1 w c s p m k)
  unfold I64 at ho
  by_cases hM : mayP c s p m k
  · rw [chk_ok hM] at C
    have hc1 : 0 ≤ c := by omega
    have hc2 : c ≤ 1073741824 := by omega
    by_cases h0 : 0 ≤ o
    · rw [show spV c s p m k o = max 0 (c - o) by unfold spV; rw [if_pos hM, if_pos h0]]
      clear hM
      go_enter Try.func24, Try.ntmps24
      go_wp2_with fail
      refine Calls.mono (C.out _) ?_
      rintro e w1 ⟨rfl, hB1⟩
      have O1 := hidden (O.out.later hB1)
      obtain ⟨c0, c1, c2, c3, c4⟩ := cells5 O1.out (.head _)
      clear hB1 O C
      go_wp2
      go_ret
      exact ⟨rfl, O1.out.below⟩
    · rw [show spV c s p m k o = 0 by unfold spV; rw [if_pos hM, if_neg h0]]
      clear hM
      go_enter Try.func24, Try.ntmps24
      go_wp2_with fail
      refine Calls.mono (C.out _) ?_
      rintro e w1 ⟨rfl, hB1⟩
      have O1 := hidden (O.out.later hB1)
      clear hB1 O C
      go_wp2
      go_ret
      exact ⟨rfl, O1.out.below⟩
  · rw [chk_no hM] at C
    rw [show spV c s p m k o = 0 by unfold spV; rw [if_neg hM]]
    clear hM
    go_enter Try.func24, Try.ntmps24
    go_wp2_with fail
    refine Calls.mono (C.out _) ?_
    rintro e w1 ⟨rfl, hB1⟩
    have O1 := hidden (O.out.later hB1)
    clear hB1 O C
    go_wp2
    go_ret
    exact ⟨rfl, O1.out.below⟩
/-- a first window -/
def opV (m k pe : Int) : Rn := if bndP m k then ((4 * m, min (max pe (4 * m)) 1073741824, 0, m, k), 0) else no 1
theorem owO (w : World) (m k : Int) : Own w ((w.alloc (.cells #[.int .i64 0, .int .i64 0, .int .i64 0, .int .i64 0, .int .i64 0] 23)).alloc (.cells #[.int .i64 0, .int .i64 0, .int .i64 0, .int .i64 m, .int .i64 k] 48)) [(w.heap.size + 1, #[.int .i64 0, .int .i64 0, .int .i64 0, .int .i64 m, .int .i64 k], 48), (w.heap.size, #[.int .i64 0, .int .i64 0, .int .i64 0, .int .i64 0, .int .i64 0], 23)] := by
  have h := ((Own.refl w).alloc #[.int .i64 0, .int .i64 0, .int .i64 0, .int .i64 0, .int .i64 0] 23).alloc #[.int .i64 0, .int .i64 0, .int .i64 0, .int .i64 m, .int .i64 k] 48
  simpa using h
theorem lowB (c s p : Int) {m : Int} (k : Int) (hm : 100 ≤ m ∧ m ≤ 1500) (w : World) : Calls Try.prog 39 #[.agg #[.int .i64 c, .int .i64 s, .int .i64 p, .int .i64 m, .int .i64 k]] w fun e w' => e = .returned (.int .i64 (4 * m)) ∧ Below w.heap.size w w' :=
  (low c s p m k w hm).mono fun e w' ⟨h1, h2⟩ => ⟨h1, by subst h2; exact (Below.refl _ w).alloc (Nat.le_refl _) _⟩
set_option maxHeartbeats 1000000 in
theorem openX (m k pe : Int) (w : World) : Calls Try.prog 19 #[.int .i64 m, .int .i64 k, .int .i64 pe] w fun e w' => e = .returned (tr (opV m k pe)) ∧ Below w.heap.size w w' := by
  have O := hidden (owO w m k)
  by_cases hb : bndP m k
  · have B := hidden (fun W => bounded_ok 0 0 0 hb W)
    have L1 := hidden (lowB 0 0 0 k hb.1)
    have L2 := hidden (lowB (4 * m) 0 0 k hb.1)
    have KE : Hid (∀ W b, Has W b #[.int .i64 1073741824] 3 → Calls Try.prog 40 #[.int .i64 pe, .int .i64 (4 * m), .slice (some ⟨b, 0, none⟩) 1 1] W fun e w' => e = .returned (.int .i64 (min (max pe (4 * m)) 1073741824)) ∧ W = w') := fun W b h => keep1 h _ _
    rw [show opV m k pe = ((4 * m, min (max pe (4 * m)) 1073741824, 0, m, k), 0) by unfold opV; rw [if_pos hb]]
    unfold tr tv
    simp only
    clear hb
    go_enter Try.func19, Try.ntmps19
    go_wp2_with fail
    refine Calls.mono (B.out _) ?_
    rintro e w1 ⟨rfl, hB1, _⟩
    have O1 := hidden (O.out.later hB1)
    obtain ⟨c0, c1, c2, c3, c4⟩ := cells5 O1.out (b := w.heap.size + 1) (.head _)
    clear hB1 O B
    go_wp2_with fail
    refine Calls.mono (L1.out _) ?_
    rintro e w2 ⟨rfl, hB2⟩
    have O2 := hidden (O1.out.later hB2)
    have O3 : Hid (Own w (w2.setCell ⟨w.heap.size + 1, 0, none⟩ (.int .i64 (4 * m))) [(w.heap.size + 1, #[.int .i64 (4 * m), .int .i64 0, .int .i64 0, .int .i64 m, .int .i64 k], 48), (w.heap.size, #[.int .i64 0, .int .i64 0, .int .i64 0, .int .i64 0, .int .i64 0], 23)]) := O2.out.set 0 _ (by simp)
    clear c0 c1 c2 c3 c4
    obtain ⟨⟨c0, c1, c2, c3, c4⟩, f0, f1, f2, f3, f4⟩ := ans O2.out (b := w.heap.size + 1) (.head _)
    clear hB2 O1 L1
    go_wp2_with fail
    refine Calls.mono (L2.out _) ?_
    rintro e w3 ⟨rfl, hB3⟩
    have O4 := hidden (O3.out.later hB3)
    clear c0 c1 c2 c3 c4 f0 f1 f2 f3 f4
    obtain ⟨⟨c0, c1, c2, c3, c4⟩, f0, f1, f2, f3, f4⟩ := ans O4.out (b := w.heap.size + 1) (.head _)
    obtain ⟨⟨r0, r1, r2, r3, r4⟩, g0, g1, g2, g3, g4⟩ := ans O4.out (b := w.heap.size) (.tail _ (.head _))
    have hl := O4.out.lt (.head _)
    have hl2 := O4.out.lt (.tail _ (.head _))
    have HB := hidden O4.out.below
    clear hB3 O2 O3 L2
    go_wp2_with fail
    refine Calls.mono (KE.out _ _ (Has.new w3 _ _)) ?_
    rintro e w4 ⟨rfl, rfl⟩
    clear KE O4
    go_wp2
    refine bodyPost_ret (v := .tuple #[.agg #[.int .i64 (4 * m), .int .i64 (min (max pe (4 * m)) 1073741824), .int .i64 0, .int .i64 m, .int .i64 k], .int .i64 0]) (by rw [results_cell_tmp rfl]; go_simp) rfl ⟨rfl, ?_⟩
    have HB2 := bel5 (HB.out.setCell (p := ⟨w.heap.size + 1, 1, none⟩) (Nat.le_add_right _ _) (.int .i64 (min (max pe (4 * m)) 1073741824))) 0 (.int .i64 (4 * m)) (.int .i64 (min (max pe (4 * m)) 1073741824)) (.int .i64 0) (.int .i64 m) (.int .i64 k)
    exact HB2.alloc HB2.size _
  · have B := hidden (fun W => bounded_no 0 0 0 hb W)
    rw [show opV m k pe = no 1 by unfold opV; rw [if_neg hb]]
    rw [show tr (no 1) = .tuple #[.agg #[.int .i64 0, .int .i64 0, .int .i64 0, .int .i64 0, .int .i64 0], .int .i64 1] from rfl]
    clear hb
    go_enter Try.func19, Try.ntmps19
    go_wp2_with fail
    refine Calls.mono (B.out _) ?_
    rintro e w1 ⟨rfl, hB1⟩
    have O1 := hidden (O.out.later hB1)
    obtain ⟨⟨r0, r1, r2, r3, r4⟩, g0, g1, g2, g3, g4⟩ := ans O1.out (b := w.heap.size) (.tail _ (.head _))
    clear hB1 O B
    go_wp2
    refine bodyPost_ret (v := .tuple #[.agg #[.int .i64 0, .int .i64 0, .int .i64 0, .int .i64 0, .int .i64 0], .int .i64 1]) (by rw [results_cell_tmp rfl]; go_simp) rfl ⟨rfl, ?_⟩
    exact bel5 O1.out.below 0 _ _ _ _ _
set_option maxHeartbeats 1000000 in
theorem rMay (c s p m k : Int) (w : World) : Calls Try.prog 21 #[.agg #[.int .i64 c, .int .i64 s, .int .i64 p, .int .i64 m, .int .i64 k]] w fun e w' => e = .returned (.bool (decide (mayP c s p m k))) ∧ Below w.heap.size w w' := by
  generalize hx : decide (mayP c s p m k) = x
  have HX := hidden hx
  clear hx
  go_enter Try.func21, Try.ntmps21
  go_wp2
  all_goals go_ret
  all_goals (refine ⟨congrArg Ending.returned (congrArg Value.bool ?_), (Below.refl _ w).alloc (Nat.le_refl _) _⟩; rw [← HX.out])
  all_goals (first | (symm; apply decide_eq_true; unfold mayP bndP; omega) | (symm; apply decide_eq_false; unfold mayP bndP; omega) | (rw [Bool.eq_iff_iff]; simp; omega))
theorem rMay_ok {c s p m k : Int} (h : mayP c s p m k) (w : World) : Calls Try.prog 21 #[.agg #[.int .i64 c, .int .i64 s, .int .i64 p, .int .i64 m, .int .i64 k]] w fun e w' => e = .returned (.bool true) ∧ Below w.heap.size w w' := by
  have := rMay c s p m k w
  rw [decide_eq_true h] at this
  exact this
theorem rMay_no {c s p m k : Int} (h : ¬ mayP c s p m k) (w : World) : Calls Try.prog 21 #[.agg #[.int .i64 c, .int .i64 s, .int .i64 p, .int .i64 m, .int .i64 k]] w fun e w' => e = .returned (.bool false) ∧ Below w.heap.size w w' := by
  have := rMay c s p m k w
  rw [decide_eq_false h] at this
  exact this
theorem rCheck (c s p m k : Int) (w : World) : Calls Try.prog 23 #[.agg #[.int .i64 c, .int .i64 s, .int .i64 p, .int .i64 m, .int .i64 k]] w fun e w' => e = .returned (.int .i64 (chk c s p m k)) ∧ Below w.heap.size w w' := by
  have O := hidden (ow1 w c s p m k)
  by_cases hM : mayP c s p m k
  · have M := hidden (rMay_ok hM)
    rw [chk_ok hM]
    clear hM
    go_enter Try.func23, Try.ntmps23
    go_wp2_with fail
    refine Calls.mono (M.out _) ?_
    rintro e w1 ⟨rfl, hB1⟩
    have O1 := hidden (O.out.later hB1).below
    clear hB1 O M
    go_wp2
    go_ret
    exact ⟨rfl, O1.out⟩
  · have M := hidden (rMay_no hM)
    rw [chk_no hM]
    clear hM
    go_enter Try.func23, Try.ntmps23
    go_wp2_with fail
    refine Calls.mono (M.out _) ?_
    rintro e w1 ⟨rfl, hB1⟩
    have O1 := hidden (O.out.later hB1).below
    clear hB1 O M
    go_wp2
    go_ret
    exact ⟨rfl, O1.out⟩
theorem rSpace (c s p m k : Int) {o : Int} (ho : I64 o) (w : World) : Calls Try.prog 25 #[.agg #[.int .i64 c, .int .i64 s, .int .i64 p, .int .i64 m, .int .i64 k], .int .i64 o] w fun e w' => e = .returned (.int .i64 (spV c s p m k o)) ∧ Below w.heap.size w w' := by
  have O := hidden (ow1 w c s p m k)
  unfold I64 at ho
  by_cases hM : mayP c s p m k
  · have M := hidden (rMay_ok hM)
    have hc1 : 0 ≤ c := by omega
    have hc2 : c ≤ 1073741824 := by omega
    by_cases h0 : 0 ≤ o
    · by_cases h1 : c ≤ o
      · rw [show spV c s p m k o = 0 by unfold spV; rw [if_pos hM, if_pos h0]; omega]
        clear hM
        go_enter Try.func25, Try.ntmps25
        go_wp2_with fail
        refine Calls.mono (M.out _) ?_
        rintro e w1 ⟨rfl, hB1⟩
        have O1 := hidden (O.out.later hB1)
        obtain ⟨c0, c1, c2, c3, c4⟩ := cells5 O1.out (.head _)
        clear hB1 O M
        go_wp2
        go_ret
        exact ⟨rfl, O1.out.below⟩
      · rw [show spV c s p m k o = c - o by unfold spV; rw [if_pos hM, if_pos h0]; omega]
        clear hM
        go_enter Try.func25, Try.ntmps25
        go_wp2_with fail
        refine Calls.mono (M.out _) ?_
        rintro e w1 ⟨rfl, hB1⟩
        have O1 := hidden (O.out.later hB1)
        obtain ⟨c0, c1, c2, c3, c4⟩ := cells5 O1.out (.head _)
        clear hB1 O M
        go_wp2
        go_ret
        exact ⟨rfl, O1.out.below⟩
    · rw [show spV c s p m k o = 0 by unfold spV; rw [if_pos hM, if_neg h0]]
      clear hM
      go_enter Try.func25, Try.ntmps25
      go_wp2_with fail
      refine Calls.mono (M.out _) ?_
      rintro e w1 ⟨rfl, hB1⟩
      have O1 := hidden (O.out.later hB1)
      obtain ⟨c0, c1, c2, c3, c4⟩ := cells5 O1.out (.head _)
      clear hB1 O M
      go_wp2
      go_ret
      exact ⟨rfl, O1.out.below⟩
  · have M := hidden (rMay_no hM)
    rw [show spV c s p m k o = 0 by unfold spV; rw [if_neg hM]]
    clear hM
    go_enter Try.func25, Try.ntmps25
    go_wp2_with fail
    refine Calls.mono (M.out _) ?_
    rintro e w1 ⟨rfl, hB1⟩
    have O1 := hidden (O.out.later hB1)
    clear hB1 O M
    go_wp2
    go_ret
    exact ⟨rfl, O1.out.below⟩
theorem owZ (w : World) : Own w (w.alloc (.cells #[.int .i64 0, .int .i64 0, .int .i64 0, .int .i64 0, .int .i64 0] 23)) [(w.heap.size, #[.int .i64 0, .int .i64 0, .int .i64 0, .int .i64 0, .int .i64 0], 23)] := (Own.refl w).alloc _ _
set_option maxHeartbeats 1000000 in
theorem rOpen (m k pe : Int) (w : World) : Calls Try.prog 20 #[.int .i64 m, .int .i64 k, .int .i64 pe] w fun e w' => e = .returned (tr (opV m k pe)) ∧ Below w.heap.size w w' := by
  by_cases hb : bndP m k
  · obtain ⟨⟨h1, h2⟩, h3, h4⟩ := id hb
    rw [show opV m k pe = ((4 * m, min (max pe (4 * m)) 1073741824, 0, m, k), 0) by unfold opV; rw [if_pos hb]]
    unfold tr tv
    simp only
    clear hb
    go_enter Try.func20, Try.ntmps20
    go_wp2
    refine bodyPost_ret (v := .tuple #[.agg #[.int .i64 (4 * m), .int .i64 (min (max pe (4 * m)) 1073741824), .int .i64 0, .int .i64 m, .int .i64 k], .int .i64 0]) (by rw [results_cell_tmp rfl]; go_simp) rfl ⟨rfl, ?_⟩
    exact (Below.refl _ w).alloc (Nat.le_refl _) _
  · rw [show opV m k pe = no 1 by unfold opV; rw [if_neg hb]]
    rw [show tr (no 1) = .tuple #[.agg #[.int .i64 0, .int .i64 0, .int .i64 0, .int .i64 0, .int .i64 0], .int .i64 1] from rfl]
    have hd : m < 100 ∨ 1500 < m ∨ ((100 ≤ m ∧ m ≤ 1500) ∧ k < 4 * m) ∨ ((100 ≤ m ∧ m ≤ 1500) ∧ 4 * m ≤ k ∧ 1073741824 < k) := by omega
    clear hb
    rcases hd with h1 | h1 | ⟨⟨h1, h2⟩, h3⟩ | ⟨⟨h1, h2⟩, h3, h4⟩
    · go_enter Try.func20, Try.ntmps20
      go_wp2
      refine bodyPost_ret (v := .tuple #[.agg #[.int .i64 0, .int .i64 0, .int .i64 0, .int .i64 0, .int .i64 0], .int .i64 1]) (by rw [results_cell_tmp rfl]; go_simp) rfl ⟨rfl, ?_⟩
      exact (Below.refl _ w).alloc (Nat.le_refl _) _
    · have h2 : 100 ≤ m := by omega
      go_enter Try.func20, Try.ntmps20
      go_wp2
      refine bodyPost_ret (v := .tuple #[.agg #[.int .i64 0, .int .i64 0, .int .i64 0, .int .i64 0, .int .i64 0], .int .i64 1]) (by rw [results_cell_tmp rfl]; go_simp) rfl ⟨rfl, ?_⟩
      exact (Below.refl _ w).alloc (Nat.le_refl _) _
    · go_enter Try.func20, Try.ntmps20
      go_wp2
      refine bodyPost_ret (v := .tuple #[.agg #[.int .i64 0, .int .i64 0, .int .i64 0, .int .i64 0, .int .i64 0], .int .i64 1]) (by rw [results_cell_tmp rfl]; go_simp) rfl ⟨rfl, ?_⟩
      exact (Below.refl _ w).alloc (Nat.le_refl _) _
    · go_enter Try.func20, Try.ntmps20
      go_wp2
      refine bodyPost_ret (v := .tuple #[.agg #[.int .i64 0, .int .i64 0, .int .i64 0, .int .i64 0, .int .i64 0], .int .i64 1]) (by rw [results_cell_tmp rfl]; go_simp) rfl ⟨rfl, ?_⟩
      exact (Below.refl _ w).alloc (Nat.le_refl _) _
/-- the number that Ack and Grow ask first -/
def asV (c s p m k n : Int) : Int := if mayP c s p m k then (if 0 ≤ n ∧ n ≤ 1073741824 then 0 else 5) else 120
theorem rAsked (c s p m k n : Int) (w : World) : Calls Try.prog 29 #[.agg #[.int .i64 c, .int .i64 s, .int .i64 p, .int .i64 m, .int .i64 k], .int .i64 n] w fun e w' => e = .returned (.int .i64 (asV c s p m k n)) ∧ Below w.heap.size w w' := by
  have O := hidden (ow1 w c s p m k)
  by_cases hM : mayP c s p m k
  · have M := hidden (rMay_ok hM)
    by_cases hn : 0 ≤ n ∧ n ≤ 1073741824
    · rw [show asV c s p m k n = 0 by unfold asV; rw [if_pos hM, if_pos hn]]
      obtain ⟨hn1, hn2⟩ := hn
      clear hM
      go_enter Try.func29, Try.ntmps29
      go_wp2_with fail
      refine Calls.mono (M.out _) ?_
      rintro e w1 ⟨rfl, hB1⟩
      have O1 := hidden (O.out.later hB1).below
      clear hB1 O M
      go_wp2
      go_ret
      exact ⟨rfl, O1.out⟩
    · rw [show asV c s p m k n = 5 by unfold asV; rw [if_pos hM, if_neg hn]]
      clear hM
      by_cases h0 : n < 0
      · clear hn
        go_enter Try.func29, Try.ntmps29
        go_wp2_with fail
        refine Calls.mono (M.out _) ?_
        rintro e w1 ⟨rfl, hB1⟩
        have O1 := hidden (O.out.later hB1).below
        clear hB1 O M
        go_wp2
        go_ret
        exact ⟨rfl, O1.out⟩
      · have h1 : 1073741824 < n := by omega
        clear hn
        go_enter Try.func29, Try.ntmps29
        go_wp2_with fail
        refine Calls.mono (M.out _) ?_
        rintro e w1 ⟨rfl, hB1⟩
        have O1 := hidden (O.out.later hB1).below
        clear hB1 O M
        go_wp2
        go_ret
        exact ⟨rfl, O1.out⟩
  · have M := hidden (rMay_no hM)
    rw [show asV c s p m k n = 120 by unfold asV; rw [if_neg hM]]
    clear hM
    go_enter Try.func29, Try.ntmps29
    go_wp2_with fail
    refine Calls.mono (M.out _) ?_
    rintro e w1 ⟨rfl, hB1⟩
    have O1 := hidden (O.out.later hB1).below
    clear hB1 O M
    go_wp2
    go_ret
    exact ⟨rfl, O1.out⟩
set_option maxHeartbeats 2000000 in
theorem rGrow (c s p m k n : Int) (w : World) : Calls Try.prog 11 #[.agg #[.int .i64 c, .int .i64 s, .int .i64 p, .int .i64 m, .int .i64 k], .int .i64 n] w fun e w' => e = .returned (tr (growV c s p m k n)) ∧ Below w.heap.size w w' := by
  have O := hidden (ow2 w c s p m k)
  have AS := hidden (rAsked c s p m k n)
  by_cases hM : mayP c s p m k
  · by_cases hn : 0 ≤ n ∧ n ≤ 1073741824
    · rw [show asV c s p m k n = 0 by unfold asV; rw [if_pos hM, if_pos hn]] at AS
      rw [show growV c s p m k n = ((min (c + n) k, s, p, m, k), 0) by unfold growV ask; rw [if_pos hM, if_pos hn]]
      obtain ⟨⟨⟨h1, h2⟩, h3, h4⟩, ⟨h5, h6⟩, ⟨h7, h8⟩, h9, h10⟩ := hM
      obtain ⟨hn1, hn2⟩ := hn
      unfold tr tv
      simp only
      go_enter Try.func11, Try.ntmps11
      go_wp2_with fail
      refine Calls.mono (AS.out _) ?_
      rintro e w1 ⟨rfl, hB1⟩
      have O1 := hidden (O.out.later hB1)
      obtain ⟨⟨c0, c1, c2, c3, c4⟩, f0, f1, f2, f3, f4⟩ := ans O1.out (b := w.heap.size) (.tail _ (.head _))
      obtain ⟨⟨r0, r1, r2, r3, r4⟩, g0, g1, g2, g3, g4⟩ := ans O1.out (b := w.heap.size + 1) (.head _)
      have HB := hidden O1.out.below
      clear hB1 O AS O1
      go_wp2
      refine bodyPost_ret (v := .tuple #[.agg #[.int .i64 (min (c + n) k), .int .i64 s, .int .i64 p, .int .i64 m, .int .i64 k], .int .i64 0]) (by rw [results_cell_tmp rfl]; (go_simp) <;> omega) rfl ⟨rfl, ?_⟩
      repeat (refine Below.setCell ?_ (by simp) _)
      exact HB.out
    · rw [show asV c s p m k n = 5 by unfold asV; rw [if_pos hM, if_neg hn]] at AS
      rw [show growV c s p m k n = no 5 by unfold growV ask; rw [if_pos hM, if_neg hn]]
      rw [show tr (no 5) = .tuple #[.agg #[.int .i64 0, .int .i64 0, .int .i64 0, .int .i64 0, .int .i64 0], .int .i64 5] from rfl]
      clear hM hn
      go_enter Try.func11, Try.ntmps11
      go_wp2_with fail
      refine Calls.mono (AS.out _) ?_
      rintro e w1 ⟨rfl, hB1⟩
      have O1 := hidden (O.out.later hB1)
      obtain ⟨⟨c0, c1, c2, c3, c4⟩, f0, f1, f2, f3, f4⟩ := ans O1.out (b := w.heap.size) (.tail _ (.head _))
      obtain ⟨⟨r0, r1, r2, r3, r4⟩, g0, g1, g2, g3, g4⟩ := ans O1.out (b := w.heap.size + 1) (.head _)
      have HB := hidden O1.out.below
      clear hB1 O AS O1
      go_wp2
      refine bodyPost_ret (v := .tuple #[.agg #[.int .i64 0, .int .i64 0, .int .i64 0, .int .i64 0, .int .i64 0], .int .i64 5]) (by rw [results_cell_tmp rfl]; (go_simp) <;> omega) rfl ⟨rfl, ?_⟩
      repeat (refine Below.setCell ?_ (by simp) _)
      exact HB.out
  · rw [show asV c s p m k n = 120 by unfold asV; rw [if_neg hM]] at AS
    rw [show growV c s p m k n = no 120 by unfold growV ask; rw [if_neg hM]]
    rw [show tr (no 120) = .tuple #[.agg #[.int .i64 0, .int .i64 0, .int .i64 0, .int .i64 0, .int .i64 0], .int .i64 120] from rfl]
    clear hM
    go_enter Try.func11, Try.ntmps11
    go_wp2_with fail
    refine Calls.mono (AS.out _) ?_
    rintro e w1 ⟨rfl, hB1⟩
    have O1 := hidden (O.out.later hB1)
    obtain ⟨⟨c0, c1, c2, c3, c4⟩, f0, f1, f2, f3, f4⟩ := ans O1.out (b := w.heap.size) (.tail _ (.head _))
    obtain ⟨⟨r0, r1, r2, r3, r4⟩, g0, g1, g2, g3, g4⟩ := ans O1.out (b := w.heap.size + 1) (.head _)
    have HB := hidden O1.out.below
    clear hB1 O AS O1
    go_wp2
    refine bodyPost_ret (v := .tuple #[.agg #[.int .i64 0, .int .i64 0, .int .i64 0, .int .i64 0, .int .i64 0], .int .i64 120]) (by rw [results_cell_tmp rfl]; (go_simp) <;> omega) rfl ⟨rfl, ?_⟩
    repeat (refine Below.setCell ?_ (by simp) _)
    exact HB.out
set_option maxHeartbeats 2000000 in
theorem rAck (c s p m k n : Int) (f mv : Bool) (w : World) : Calls Try.prog 9 #[.agg #[.int .i64 c, .int .i64 s, .int .i64 p, .int .i64 m, .int .i64 k], .int .i64 n, .bool f, .bool mv] w fun e w' => e = .returned (tr (ackV c s p m k n f mv)) ∧ Below w.heap.size w w' := by
  have O := hidden (ow2 w c s p m k)
  have AS := hidden (rAsked c s p m k n)
  by_cases hM : mayP c s p m k
  · by_cases hn : 0 ≤ n ∧ n ≤ 1073741824
    · rw [show asV c s p m k n = 0 by unfold asV; rw [if_pos hM, if_pos hn]] at AS
      rw [show ackV c s p m k n f mv = (bif mv then (akC c s p m k n f, s, akP c s p m k n f, m, k) else (c, s, p, m, k), 0) by unfold ackV ask; rw [if_pos hM, if_pos hn]]
      obtain ⟨⟨⟨h1, h2⟩, h3, h4⟩, ⟨h5, h6⟩, ⟨h7, h8⟩, h9, h10⟩ := hM
      obtain ⟨hn1, hn2⟩ := hn
      cases mv
      · rw [show (bif false then (akC c s p m k n f, s, akP c s p m k n f, m, k) else (c, s, p, m, k) : Wd) = (c, s, p, m, k) from rfl]
        unfold tr tv
        simp only
        go_enter Try.func9, Try.ntmps9
        go_wp2_with fail
        refine Calls.mono (AS.out _) ?_
        rintro e w1 ⟨rfl, hB1⟩
        have O1 := hidden (O.out.later hB1)
        obtain ⟨⟨c0, c1, c2, c3, c4⟩, f0, f1, f2, f3, f4⟩ := ans O1.out (b := w.heap.size) (.tail _ (.head _))
        obtain ⟨⟨r0, r1, r2, r3, r4⟩, g0, g1, g2, g3, g4⟩ := ans O1.out (b := w.heap.size + 1) (.head _)
        have HB := hidden O1.out.below
        clear hB1 O AS O1
        go_wp2
        refine bodyPost_ret (v := .tuple #[.agg #[.int .i64 c, .int .i64 s, .int .i64 p, .int .i64 m, .int .i64 k], .int .i64 0]) (by rw [results_cell_tmp rfl]; (go_simp) <;> omega) rfl ⟨rfl, ?_⟩
        repeat (refine Below.setCell ?_ (by simp) _)
        exact HB.out
      · rw [show (bif true then (akC c s p m k n f, s, akP c s p m k n f, m, k) else (c, s, p, m, k) : Wd) = (akC c s p m k n f, s, akP c s p m k n f, m, k) from rfl]
        by_cases hs : c ≤ s
        · cases f
          · have e1 : akC c s p m k n false = c := by unfold akC; rw [if_pos hs]; rfl
            have e2 : akP c s p m k n false = p := by unfold akP; rw [if_pos hs]
            rw [e1, e2]
            clear e1 e2
            unfold tr tv
            simp only
            go_enter Try.func9, Try.ntmps9
            go_wp2_with fail
            refine Calls.mono (AS.out _) ?_
            rintro e w1 ⟨rfl, hB1⟩
            have O1 := hidden (O.out.later hB1)
            obtain ⟨⟨c0, c1, c2, c3, c4⟩, f0, f1, f2, f3, f4⟩ := ans O1.out (b := w.heap.size) (.tail _ (.head _))
            obtain ⟨⟨r0, r1, r2, r3, r4⟩, g0, g1, g2, g3, g4⟩ := ans O1.out (b := w.heap.size + 1) (.head _)
            have HB := hidden O1.out.below
            clear hB1 O AS O1
            go_wp2
            refine bodyPost_ret (v := .tuple #[.agg #[.int .i64 c, .int .i64 s, .int .i64 p, .int .i64 m, .int .i64 k], .int .i64 0]) (by rw [results_cell_tmp rfl]; (go_simp) <;> omega) rfl ⟨rfl, ?_⟩
            repeat (refine Below.setCell ?_ (by simp) _)
            exact HB.out
          · have e1 : akC c s p m k n true = min (c + min n m) k := by unfold akC; rw [if_pos hs]; rfl
            have e2 : akP c s p m k n true = p := by unfold akP; rw [if_pos hs]
            rw [e1, e2]
            clear e1 e2
            unfold tr tv
            simp only
            go_enter Try.func9, Try.ntmps9
            go_wp2_with fail
            refine Calls.mono (AS.out _) ?_
            rintro e w1 ⟨rfl, hB1⟩
            have O1 := hidden (O.out.later hB1)
            obtain ⟨⟨c0, c1, c2, c3, c4⟩, f0, f1, f2, f3, f4⟩ := ans O1.out (b := w.heap.size) (.tail _ (.head _))
            obtain ⟨⟨r0, r1, r2, r3, r4⟩, g0, g1, g2, g3, g4⟩ := ans O1.out (b := w.heap.size + 1) (.head _)
            have HB := hidden O1.out.below
            clear hB1 O AS O1
            go_wp2
            refine bodyPost_ret (v := .tuple #[.agg #[.int .i64 (min (c + min n m) k), .int .i64 s, .int .i64 p, .int .i64 m, .int .i64 k], .int .i64 0]) (by rw [results_cell_tmp rfl]; (go_simp) <;> omega) rfl ⟨rfl, ?_⟩
            repeat (refine Below.setCell ?_ (by simp) _)
            exact HB.out
        · by_cases hq : p + n < c
          · have e1 : akC c s p m k n f = c := by unfold akC; rw [if_neg hs, if_pos hq]
            have e2 : akP c s p m k n f = p + n := by unfold akP; rw [if_neg hs, if_pos hq]
            rw [e1, e2]
            clear e1 e2
            unfold tr tv
            simp only
            go_enter Try.func9, Try.ntmps9
            go_wp2_with fail
            refine Calls.mono (AS.out _) ?_
            rintro e w1 ⟨rfl, hB1⟩
            have O1 := hidden (O.out.later hB1)
            obtain ⟨⟨c0, c1, c2, c3, c4⟩, f0, f1, f2, f3, f4⟩ := ans O1.out (b := w.heap.size) (.tail _ (.head _))
            obtain ⟨⟨r0, r1, r2, r3, r4⟩, g0, g1, g2, g3, g4⟩ := ans O1.out (b := w.heap.size + 1) (.head _)
            have HB := hidden O1.out.below
            clear hB1 O AS O1
            go_wp2
            refine bodyPost_ret (v := .tuple #[.agg #[.int .i64 c, .int .i64 s, .int .i64 (p + n), .int .i64 m, .int .i64 k], .int .i64 0]) (by rw [results_cell_tmp rfl]; (go_simp) <;> omega) rfl ⟨rfl, ?_⟩
            repeat (refine Below.setCell ?_ (by simp) _)
            exact HB.out
          · cases f
            · have e1 : akC c s p m k n false = c := by unfold akC; rw [if_neg hs, if_neg hq]; rfl
              have e2 : akP c s p m k n false = c := by unfold akP; rw [if_neg hs, if_neg hq]; rfl
              rw [e1, e2]
              clear e1 e2
              unfold tr tv
              simp only
              go_enter Try.func9, Try.ntmps9
              go_wp2_with fail
              refine Calls.mono (AS.out _) ?_
              rintro e w1 ⟨rfl, hB1⟩
              have O1 := hidden (O.out.later hB1)
              obtain ⟨⟨c0, c1, c2, c3, c4⟩, f0, f1, f2, f3, f4⟩ := ans O1.out (b := w.heap.size) (.tail _ (.head _))
              obtain ⟨⟨r0, r1, r2, r3, r4⟩, g0, g1, g2, g3, g4⟩ := ans O1.out (b := w.heap.size + 1) (.head _)
              have HB := hidden O1.out.below
              clear hB1 O AS O1
              go_wp2
              refine bodyPost_ret (v := .tuple #[.agg #[.int .i64 c, .int .i64 s, .int .i64 c, .int .i64 m, .int .i64 k], .int .i64 0]) (by rw [results_cell_tmp rfl]; (go_simp) <;> omega) rfl ⟨rfl, ?_⟩
              repeat (refine Below.setCell ?_ (by simp) _)
              exact HB.out
            · have e1 : akC c s p m k n true = min (c + m) k := by unfold akC; rw [if_neg hs, if_neg hq]; rfl
              have e2 : akP c s p m k n true = min (p + n - c) (min (c + m) k) := by unfold akP; rw [if_neg hs, if_neg hq]; rfl
              rw [e1, e2]
              clear e1 e2
              unfold tr tv
              simp only
              go_enter Try.func9, Try.ntmps9
              go_wp2_with fail
              refine Calls.mono (AS.out _) ?_
              rintro e w1 ⟨rfl, hB1⟩
              have O1 := hidden (O.out.later hB1)
              obtain ⟨⟨c0, c1, c2, c3, c4⟩, f0, f1, f2, f3, f4⟩ := ans O1.out (b := w.heap.size) (.tail _ (.head _))
              obtain ⟨⟨r0, r1, r2, r3, r4⟩, g0, g1, g2, g3, g4⟩ := ans O1.out (b := w.heap.size + 1) (.head _)
              have O5 : Hid (Own w ((w1.setCell ⟨w.heap.size, 2, none⟩ (.int .i64 (p + n - c))).setCell ⟨w.heap.size, 0, none⟩ (.int .i64 (c + m))) [(w.heap.size, #[.int .i64 (c + m), .int .i64 s, .int .i64 (p + n - c), .int .i64 m, .int .i64 k], 23), (w.heap.size + 1, #[.int .i64 0, .int .i64 0, .int .i64 0, .int .i64 0, .int .i64 0], 23)]) := ((O1.out.sub (M := [(w.heap.size, #[.int .i64 c, .int .i64 s, .int .i64 p, .int .i64 m, .int .i64 k], 23), (w.heap.size + 1, #[.int .i64 0, .int .i64 0, .int .i64 0, .int .i64 0, .int .i64 0], 23)]) (by simp)).set 2 _ (by simp)).set 0 _ (by simp)
              clear hB1 O AS O1
              go_upto_region 15 with fail
              generalize (w1.setCell ⟨w.heap.size, 2, none⟩ (.int .i64 (p + n - c))).setCell ⟨w.heap.size, 0, none⟩ (.int .i64 (c + m)) = W2 at O5 ⊢
              clear c0 c1 c2 c3 c4 f0 f1 f2 f3 f4 r0 r1 r2 r3 r4 g0 g1 g2 g3 g4
              obtain ⟨⟨c0, c1, c2, c3, c4⟩, f0, f1, f2, f3, f4⟩ := ans O5.out (b := w.heap.size) (.head _)
              obtain ⟨⟨r0, r1, r2, r3, r4⟩, g0, g1, g2, g3, g4⟩ := ans O5.out (b := w.heap.size + 1) (.tail _ (.head _))
              have HB := hidden O5.out.below
              clear O5
              go_wp2
              refine bodyPost_ret (v := .tuple #[.agg #[.int .i64 (min (c + m) k), .int .i64 s, .int .i64 (min (p + n - c) (min (c + m) k)), .int .i64 m, .int .i64 k], .int .i64 0]) (by rw [results_cell_tmp rfl]; (go_simp) <;> omega) rfl ⟨rfl, ?_⟩
              repeat (refine Below.setCell ?_ (by simp) _)
              exact HB.out
    · rw [show asV c s p m k n = 5 by unfold asV; rw [if_pos hM, if_neg hn]] at AS
      rw [show ackV c s p m k n f mv = no 5 by unfold ackV ask; rw [if_pos hM, if_neg hn]]
      rw [show tr (no 5) = .tuple #[.agg #[.int .i64 0, .int .i64 0, .int .i64 0, .int .i64 0, .int .i64 0], .int .i64 5] from rfl]
      clear hM hn
      go_enter Try.func9, Try.ntmps9
      go_wp2_with fail
      refine Calls.mono (AS.out _) ?_
      rintro e w1 ⟨rfl, hB1⟩
      have O1 := hidden (O.out.later hB1)
      obtain ⟨⟨c0, c1, c2, c3, c4⟩, f0, f1, f2, f3, f4⟩ := ans O1.out (b := w.heap.size) (.tail _ (.head _))
      obtain ⟨⟨r0, r1, r2, r3, r4⟩, g0, g1, g2, g3, g4⟩ := ans O1.out (b := w.heap.size + 1) (.head _)
      have HB := hidden O1.out.below
      clear hB1 O AS O1
      go_wp2
      refine bodyPost_ret (v := .tuple #[.agg #[.int .i64 0, .int .i64 0, .int .i64 0, .int .i64 0, .int .i64 0], .int .i64 5]) (by rw [results_cell_tmp rfl]; (go_simp) <;> omega) rfl ⟨rfl, ?_⟩
      repeat (refine Below.setCell ?_ (by simp) _)
      exact HB.out
  · rw [show asV c s p m k n = 120 by unfold asV; rw [if_neg hM]] at AS
    rw [show ackV c s p m k n f mv = no 120 by unfold ackV ask; rw [if_neg hM]]
    rw [show tr (no 120) = .tuple #[.agg #[.int .i64 0, .int .i64 0, .int .i64 0, .int .i64 0, .int .i64 0], .int .i64 120] from rfl]
    clear hM
    go_enter Try.func9, Try.ntmps9
    go_wp2_with fail
    refine Calls.mono (AS.out _) ?_
    rintro e w1 ⟨rfl, hB1⟩
    have O1 := hidden (O.out.later hB1)
    obtain ⟨⟨c0, c1, c2, c3, c4⟩, f0, f1, f2, f3, f4⟩ := ans O1.out (b := w.heap.size) (.tail _ (.head _))
    obtain ⟨⟨r0, r1, r2, r3, r4⟩, g0, g1, g2, g3, g4⟩ := ans O1.out (b := w.heap.size + 1) (.head _)
    have HB := hidden O1.out.below
    clear hB1 O AS O1
    go_wp2
    refine bodyPost_ret (v := .tuple #[.agg #[.int .i64 0, .int .i64 0, .int .i64 0, .int .i64 0, .int .i64 0], .int .i64 120]) (by rw [results_cell_tmp rfl]; (go_simp) <;> omega) rfl ⟨rfl, ?_⟩
    repeat (refine Below.setCell ?_ (by simp) _)
    exact HB.out
set_option maxHeartbeats 2000000 in
theorem rFast (c s p m k : Int) (w : World) : Calls Try.prog 14 #[.agg #[.int .i64 c, .int .i64 s, .int .i64 p, .int .i64 m, .int .i64 k]] w fun e w' => e = .returned (tr (fastV c s p m k)) ∧ Below w.heap.size w w' := by
  have O := hidden (ow2 w c s p m k)
  by_cases hM : mayP c s p m k
  · have M := hidden (rMay_ok hM)
    rw [show fastV c s p m k = ((min (max (c / 2) (4 * m)) k, max (c / 2) (4 * m), 0, m, k), 0) by unfold fastV ask; rw [if_pos hM, if_pos (by decide)]]
    obtain ⟨⟨⟨h1, h2⟩, h3, h4⟩, ⟨h5, h6⟩, ⟨h7, h8⟩, h9, h10⟩ := hM
    unfold tr tv
    simp only
    go_enter Try.func14, Try.ntmps14
    go_wp2_with fail
    refine Calls.mono (M.out _) ?_
    rintro e w1 ⟨rfl, hB1⟩
    have O1 := hidden (O.out.later hB1)
    obtain ⟨⟨c0, c1, c2, c3, c4⟩, f0, f1, f2, f3, f4⟩ := ans O1.out (b := w.heap.size) (.tail _ (.head _))
    obtain ⟨⟨r0, r1, r2, r3, r4⟩, g0, g1, g2, g3, g4⟩ := ans O1.out (b := w.heap.size + 1) (.head _)
    have HB := hidden O1.out.below
    clear hB1 O M O1
    go_wp2
    refine bodyPost_ret (v := .tuple #[.agg #[.int .i64 (min (max (c / 2) (4 * m)) k), .int .i64 (max (c / 2) (4 * m)), .int .i64 0, .int .i64 m, .int .i64 k], .int .i64 0]) (by rw [results_cell_tmp rfl]; (go_simp) <;> omega) rfl ⟨rfl, ?_⟩
    repeat (refine Below.setCell ?_ (by simp) _)
    exact HB.out
  · have M := hidden (rMay_no hM)
    rw [show fastV c s p m k = no 120 by unfold fastV ask; rw [if_neg hM]]
    rw [show tr (no 120) = .tuple #[.agg #[.int .i64 0, .int .i64 0, .int .i64 0, .int .i64 0, .int .i64 0], .int .i64 120] from rfl]
    clear hM
    go_enter Try.func14, Try.ntmps14
    go_wp2_with fail
    refine Calls.mono (M.out _) ?_
    rintro e w1 ⟨rfl, hB1⟩
    have O1 := hidden (O.out.later hB1)
    obtain ⟨⟨c0, c1, c2, c3, c4⟩, f0, f1, f2, f3, f4⟩ := ans O1.out (b := w.heap.size) (.tail _ (.head _))
    obtain ⟨⟨r0, r1, r2, r3, r4⟩, g0, g1, g2, g3, g4⟩ := ans O1.out (b := w.heap.size + 1) (.head _)
    have HB := hidden O1.out.below
    clear hB1 O M O1
    go_wp2
    refine bodyPost_ret (v := .tuple #[.agg #[.int .i64 0, .int .i64 0, .int .i64 0, .int .i64 0, .int .i64 0], .int .i64 120]) (by rw [results_cell_tmp rfl]; (go_simp) <;> omega) rfl ⟨rfl, ?_⟩
    repeat (refine Below.setCell ?_ (by simp) _)
    exact HB.out
set_option maxHeartbeats 2000000 in
theorem rTime (c s p m k : Int) (w : World) : Calls Try.prog 16 #[.agg #[.int .i64 c, .int .i64 s, .int .i64 p, .int .i64 m, .int .i64 k]] w fun e w' => e = .returned (tr (timeV c s p m k)) ∧ Below w.heap.size w w' := by
  have O := hidden (ow2 w c s p m k)
  by_cases hM : mayP c s p m k
  · have M := hidden (rMay_ok hM)
    rw [show timeV c s p m k = ((m, max (c / 2) (4 * m), 0, m, k), 0) by unfold timeV ask; rw [if_pos hM, if_pos (by decide)]]
    obtain ⟨⟨⟨h1, h2⟩, h3, h4⟩, ⟨h5, h6⟩, ⟨h7, h8⟩, h9, h10⟩ := hM
    unfold tr tv
    simp only
    go_enter Try.func16, Try.ntmps16
    go_wp2_with fail
    refine Calls.mono (M.out _) ?_
    rintro e w1 ⟨rfl, hB1⟩
    have O1 := hidden (O.out.later hB1)
    obtain ⟨⟨c0, c1, c2, c3, c4⟩, f0, f1, f2, f3, f4⟩ := ans O1.out (b := w.heap.size) (.tail _ (.head _))
    obtain ⟨⟨r0, r1, r2, r3, r4⟩, g0, g1, g2, g3, g4⟩ := ans O1.out (b := w.heap.size + 1) (.head _)
    have HB := hidden O1.out.below
    clear hB1 O M O1
    go_wp2
    refine bodyPost_ret (v := .tuple #[.agg #[.int .i64 m, .int .i64 (max (c / 2) (4 * m)), .int .i64 0, .int .i64 m, .int .i64 k], .int .i64 0]) (by rw [results_cell_tmp rfl]; (go_simp) <;> omega) rfl ⟨rfl, ?_⟩
    repeat (refine Below.setCell ?_ (by simp) _)
    exact HB.out
  · have M := hidden (rMay_no hM)
    rw [show timeV c s p m k = no 120 by unfold timeV ask; rw [if_neg hM]]
    rw [show tr (no 120) = .tuple #[.agg #[.int .i64 0, .int .i64 0, .int .i64 0, .int .i64 0, .int .i64 0], .int .i64 120] from rfl]
    clear hM
    go_enter Try.func16, Try.ntmps16
    go_wp2_with fail
    refine Calls.mono (M.out _) ?_
    rintro e w1 ⟨rfl, hB1⟩
    have O1 := hidden (O.out.later hB1)
    obtain ⟨⟨c0, c1, c2, c3, c4⟩, f0, f1, f2, f3, f4⟩ := ans O1.out (b := w.heap.size) (.tail _ (.head _))
    obtain ⟨⟨r0, r1, r2, r3, r4⟩, g0, g1, g2, g3, g4⟩ := ans O1.out (b := w.heap.size + 1) (.head _)
    have HB := hidden O1.out.below
    clear hB1 O M O1
    go_wp2
    refine bodyPost_ret (v := .tuple #[.agg #[.int .i64 0, .int .i64 0, .int .i64 0, .int .i64 0, .int .i64 0], .int .i64 120]) (by rw [results_cell_tmp rfl]; (go_simp) <;> omega) rfl ⟨rfl, ?_⟩
    repeat (refine Below.setCell ?_ (by simp) _)
    exact HB.out
set_option maxHeartbeats 2000000 in
theorem rIdle (c s p m k : Int) (w : World) : Calls Try.prog 18 #[.agg #[.int .i64 c, .int .i64 s, .int .i64 p, .int .i64 m, .int .i64 k]] w fun e w' => e = .returned (tr (idleV c s p m k)) ∧ Below w.heap.size w w' := by
  have O := hidden (ow2 w c s p m k)
  by_cases hM : mayP c s p m k
  · have M := hidden (rMay_ok hM)
    rw [show idleV c s p m k = ((min (max (c / 2) (4 * m)) c, s, 0, m, k), 0) by unfold idleV ask; rw [if_pos hM, if_pos (by decide)]]
    obtain ⟨⟨⟨h1, h2⟩, h3, h4⟩, ⟨h5, h6⟩, ⟨h7, h8⟩, h9, h10⟩ := hM
    unfold tr tv
    simp only
    go_enter Try.func18, Try.ntmps18
    go_wp2_with fail
    refine Calls.mono (M.out _) ?_
    rintro e w1 ⟨rfl, hB1⟩
    have O1 := hidden (O.out.later hB1)
    obtain ⟨⟨c0, c1, c2, c3, c4⟩, f0, f1, f2, f3, f4⟩ := ans O1.out (b := w.heap.size) (.tail _ (.head _))
    obtain ⟨⟨r0, r1, r2, r3, r4⟩, g0, g1, g2, g3, g4⟩ := ans O1.out (b := w.heap.size + 1) (.head _)
    have HB := hidden O1.out.below
    clear hB1 O M O1
    go_wp2
    refine bodyPost_ret (v := .tuple #[.agg #[.int .i64 (min (max (c / 2) (4 * m)) c), .int .i64 s, .int .i64 0, .int .i64 m, .int .i64 k], .int .i64 0]) (by rw [results_cell_tmp rfl]; (go_simp) <;> omega) rfl ⟨rfl, ?_⟩
    repeat (refine Below.setCell ?_ (by simp) _)
    exact HB.out
  · have M := hidden (rMay_no hM)
    rw [show idleV c s p m k = no 120 by unfold idleV ask; rw [if_neg hM]]
    rw [show tr (no 120) = .tuple #[.agg #[.int .i64 0, .int .i64 0, .int .i64 0, .int .i64 0, .int .i64 0], .int .i64 120] from rfl]
    clear hM
    go_enter Try.func18, Try.ntmps18
    go_wp2_with fail
    refine Calls.mono (M.out _) ?_
    rintro e w1 ⟨rfl, hB1⟩
    have O1 := hidden (O.out.later hB1)
    obtain ⟨⟨c0, c1, c2, c3, c4⟩, f0, f1, f2, f3, f4⟩ := ans O1.out (b := w.heap.size) (.tail _ (.head _))
    obtain ⟨⟨r0, r1, r2, r3, r4⟩, g0, g1, g2, g3, g4⟩ := ans O1.out (b := w.heap.size + 1) (.head _)
    have HB := hidden O1.out.below
    clear hB1 O M O1
    go_wp2
    refine bodyPost_ret (v := .tuple #[.agg #[.int .i64 0, .int .i64 0, .int .i64 0, .int .i64 0, .int .i64 0], .int .i64 120]) (by rw [results_cell_tmp rfl]; (go_simp) <;> omega) rfl ⟨rfl, ?_⟩
    repeat (refine Below.setCell ?_ (by simp) _)
    exact HB.out
end Go.Proofs.Ytaaghlgleofcgaa.Cw
