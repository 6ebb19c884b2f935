/-
  Shares of a send buffer: the document's answers.
  Conditions: as at each lemma.
-/
import Derived.Test.YtbnmcjajhcgcnaaShD
namespace Go.Proofs.Ytbnmcjajhcgcnaa.Sh
open Go.ChangeShapes Go.WideShapes Go.ChangeAt Go.RowKit
open Ba (hidden Has Only)
open Ow (Own)
set_option linter.unusedVariables false

theorem rmay (B P M : Int) (w : World) : Calls Try.prog 24 #[.agg #[.int .i64 B, .int .i64 P, .int .i64 M]] w fun e w' => e = .returned (.bool (okb B P M)) ∧ Below w.heap.size w w' := by
  have B0 := hidden ((Below.refl _ w).alloc (Nat.le_refl _) (.cells #[.int .i64 B, .int .i64 P, .int .i64 M] 23))
  by_cases h1 : 1 ≤ B
  case neg =>
    rw [okb_f fun h => h1 h.1.1]
    go_enter Try.func24, Try.ntmps24
    go_wp2
    go_ret
    exact ⟨rfl, B0.out⟩
  by_cases h2 : B ≤ 1073741824
  case neg =>
    rw [okb_f fun h => h2 h.1.2]
    go_enter Try.func24, Try.ntmps24
    go_wp2
    go_ret
    exact ⟨rfl, B0.out⟩
  by_cases h3 : 1 ≤ P
  case neg =>
    rw [okb_f fun h => h3 h.2.1.1]
    go_enter Try.func24, Try.ntmps24
    go_wp2
    go_ret
    exact ⟨rfl, B0.out⟩
  by_cases h4 : P ≤ 8
  case neg =>
    rw [okb_f fun h => h4 h.2.1.2]
    go_enter Try.func24, Try.ntmps24
    go_wp2
    go_ret
    exact ⟨rfl, B0.out⟩
  by_cases h5 : 100 ≤ M
  case neg =>
    rw [okb_f fun h => h5 h.2.2.1]
    go_enter Try.func24, Try.ntmps24
    go_wp2
    go_ret
    exact ⟨rfl, B0.out⟩
  by_cases h6 : M ≤ 1500
  case neg =>
    rw [okb_f fun h => h6 h.2.2.2]
    go_enter Try.func24, Try.ntmps24
    go_wp2
    go_ret
    exact ⟨rfl, B0.out⟩
  rw [okb_t ⟨⟨h1, h2⟩, ⟨h3, h4⟩, h5, h6⟩]
  go_enter Try.func24, Try.ntmps24
  go_wp2
  go_ret
  exact ⟨rfl, B0.out⟩
/-- one step towards the share -/
theorem nearer {n p x : Int} (hn : byt n) (hp : 1 ≤ p ∧ p ≤ 8) (hx : 0 ≤ x ∧ x ≤ part n p) : (0 ≤ x * p ∧ x * p ≤ 2147483648) ∧ (x * p < n → (0 ≤ (n - x * p) / p ∧ (n - x * p) / p ≤ n) ∧ x + max ((n - x * p) / p) 1 ≤ part n p) ∧ (¬ x * p < n → x = part n p) := by
  unfold part at *
  rcases eight hp with rfl | rfl | rfl | rfl | rfl | rfl | rfl | rfl <;> omega
theorem rpart {n p : Int} (hn : byt n) (hp : 1 ≤ p ∧ p ≤ 8) (w : World) : Calls Try.prog 25 #[.int .i64 n, .int .i64 p] w fun e w' => e = .returned (.int .i64 (part n p)) ∧ w = w' := by
  have NE := hidden (fun x hx => nearer (x := x) hn hp hx)
  have hV := part_in hn hp
  generalize part n p = V at *
  have hp0 : ¬ p = 0 := by omega
  go_enter Try.func25, Try.ntmps25
  go_wp2_with fail
  go_loopw [5] (fun i wr => ∃ x : Int, 0 ≤ x ∧ x ≤ V ∧ i = .int .i64 x ∧ w = wr) (fun i _ => V.toNat - (intOf i).toNat)
  case atStart => exact ⟨0, by omega, by omega, rfl, rfl⟩
  case round =>
    obtain ⟨x, j1, j2, rfl, rfl⟩ := hrel
    obtain ⟨k1, k2, k3⟩ := NE.out x ⟨j1, j2⟩
    generalize hY : x * p = Y at k1 k2 k3
    have hw1 : IntKind.i64.wrap (x * p) = Y := by rw [hY, IntKind.wrap_i64]; omega
    clear hY
    by_cases hq : Y < n
    · obtain ⟨k4, k5⟩ := k2 hq
      have hw2 : IntKind.i64.wrap (n - Y) = n - Y := by rw [IntKind.wrap_i64]; omega
      have hw3 : IntKind.i64.wrap ((n - Y).tdiv p) = (n - Y) / p := by
        rw [Int.tdiv_eq_ediv_of_nonneg (by omega), IntKind.wrap_i64]
        omega
      generalize (n - Y) / p = D at *
      have hw4 : IntKind.i64.wrap (x + max D 1) = x + max D 1 := by rw [IntKind.wrap_i64]; omega
      clear k2 k3
      go_wp2
      go_roundw
      case rel => exact ⟨x + max D 1, by omega, by omega, by first | rfl | simp [hw1, hw2, hw3, hw4], by trivial⟩
      case measure => simp [intOf]; omega
    · obtain rfl := k3 (by omega)
      clear k2 k3
      go_wp2
      go_ret
      exact ⟨rfl, rfl⟩
section
variable {w : World} {a : Option Addr} {n cap : Nat} {ys : List Int}
theorem numbers (h : Nu w a n ys) : Calls Try.prog 31 #[.slice a n cap] w fun e w' => e = .returned (.bool (okY ys)) ∧ w = w' := by
  have hn : n ≤ 140737488355328 := h.2.2.1
  have H := hidden h
  clear h
  go_enter Try.func31, Try.ntmps31
  go_wp2_with fail
  go_loopw [3] (fun i wr => ∃ q : Int, 0 ≤ q ∧ q ≤ (n : Int) ∧ i = .int .i64 q ∧ Hid (okY (ys.take q.toNat) = true) ∧ w = wr) (fun i _ => n - (intOf i).toNat)
  case atStart => exact ⟨0, by omega, by omega, rfl, rfl, rfl⟩
  case round =>
    obtain ⟨q, j1, j2, rfl, HU, rfl⟩ := hrel
    by_cases hq : q < (n : Int)
    · obtain ⟨b, off, rfl, hb⟩ := Nu.open H.out (by omega)
      obtain ⟨y, hy, d0⟩ := Nu.get H.out (q := q.toNat) (by omega)
      by_cases h1 : y < 0
      · have HG : Hid (okY ys = false) := okY_f fun h => by have := h y (List.mem_of_getElem? hy); omega
        clear hy
        go_wp2
        go_ret
        exact ⟨by rw [HG.out]; rfl, rfl⟩
      · by_cases h2 : 1073741824 < y
        · have HG : Hid (okY ys = false) := okY_f fun h => by have := h y (List.mem_of_getElem? hy); omega
          clear hy
          go_wp2
          go_ret
          exact ⟨by rw [HG.out]; rfl, rfl⟩
        · have HN : Hid (okY (ys.take (q + 1).toNat) = true) := by
            show okY (ys.take (q + 1).toNat) = true
            rw [show (q + 1).toNat = q.toNat + 1 by omega, okY_next hy, HU.out, decide_eq_true (show byt y by omega)]
            rfl
          clear hy
          go_wp2
          go_roundw
          case rel => exact ⟨q + 1, by omega, by omega, rfl, HN.out, by trivial⟩
          case measure => simp [intOf]; omega
    · obtain rfl : q = (n : Int) := by omega
      have HG : Hid (okY ys = true) := by
        have := HU.out
        rw [List.take_of_length_le (by rw [H.out.len]; omega)] at this
        exact this
      go_wp2
      go_ret
      exact ⟨by rw [HG.out]; rfl, rfl⟩
set_option maxHeartbeats 1000000 in
theorem rCheck (h : Nu w a n ys) (B P M : Int) : Calls Try.prog 16 #[.agg #[.int .i64 B, .int .i64 P, .int .i64 M], .slice a n cap] w fun e w' => e = .returned (.int .i64 (chk B P M ys)) ∧ Below w.heap.size w w' := by
  have hl := h.len
  have hn : n ≤ 140737488355328 := h.2.2.1
  have O := hidden ((Own.refl w).alloc #[.int .i64 B, .int .i64 P, .int .i64 M] 23)
  have SH := hidden (rmay B P M)
  have BO : Hid (∀ X, Below w.heap.size w X → Calls Try.prog 31 #[.slice a n cap] X fun e w' => e = .returned (.bool (okY ys)) ∧ X = w') := fun X hX => numbers (h.later hX)
  by_cases hk : okS B P M
  · rw [okb_t hk] at SH
    by_cases hp : (n : Int) = P
    · have HC := hidden (fun hy => chk_ok hk (ys := ys) (by omega) hy)
      have HD := hidden (fun hy => chk_arg hk (ys := ys) hy)
      clear h hk
      cases hy : okY ys with
      | true =>
        have E := hidden (HC.out hy)
        rw [hy] at BO
        generalize chk B P M ys = C at *
        clear HC HD hy
        go_enter Try.func16, Try.ntmps16
        go_wp2_with fail
        refine Calls.mono (SH.out _) ?_
        rintro e w1 ⟨rfl, hB⟩
        have O1 := hidden (O.out.later hB)
        obtain ⟨c0, c1, c2⟩ := cells3 O1.out (.head _)
        clear hB O SH
        go_wp2_with fail
        refine Calls.mono (BO.out _ O1.out.below) ?_
        rintro e w2 ⟨rfl, rfl⟩
        clear BO
        go_wp2
        go_ret
        exact ⟨by rw [E.out]; rfl, O1.out.below⟩
      | false =>
        have E := hidden (HD.out hy)
        rw [hy] at BO
        generalize chk B P M ys = C at *
        clear HC HD hy
        go_enter Try.func16, Try.ntmps16
        go_wp2_with fail
        refine Calls.mono (SH.out _) ?_
        rintro e w1 ⟨rfl, hB⟩
        have O1 := hidden (O.out.later hB)
        obtain ⟨c0, c1, c2⟩ := cells3 O1.out (.head _)
        clear hB O SH
        go_wp2_with fail
        refine Calls.mono (BO.out _ O1.out.below) ?_
        rintro e w2 ⟨rfl, rfl⟩
        clear BO
        go_wp2
        go_ret
        exact ⟨by rw [E.out]; rfl, O1.out.below⟩
    · have E := hidden (chk_len hk (ys := ys) (by omega))
      generalize chk B P M ys = C at *
      clear h hk hl BO
      go_enter Try.func16, Try.ntmps16
      go_wp2_with fail
      refine Calls.mono (SH.out _) ?_
      rintro e w1 ⟨rfl, hB⟩
      have O1 := hidden (O.out.later hB)
      obtain ⟨c0, c1, c2⟩ := cells3 O1.out (.head _)
      clear hB O SH
      go_wp2
      go_ret
      exact ⟨by rw [E.out]; rfl, O1.out.below⟩
  · rw [okb_f hk] at SH
    have E := hidden (chk_no hk ys)
    generalize chk B P M ys = C at *
    clear h hk hl BO
    go_enter Try.func16, Try.ntmps16
    go_wp2_with fail
    refine Calls.mono (SH.out _) ?_
    rintro e w1 ⟨rfl, hB⟩
    have O1 := hidden (O.out.later hB)
    clear hB O SH
    go_wp2
    go_ret
    exact ⟨by rw [E.out]; rfl, O1.out.below⟩
end
theorem rShare (B P M : Int) (w : World) : Calls Try.prog 9 #[.agg #[.int .i64 B, .int .i64 P, .int .i64 M]] w fun e w' => e = .returned (.tuple #[.int .i64 (shV B P M), .int .i64 (shE B P M)]) ∧ Below w.heap.size w w' := by
  have O := hidden ((Own.refl w).alloc #[.int .i64 B, .int .i64 P, .int .i64 M] 23)
  have SH := hidden (rmay B P M)
  by_cases hk : okS B P M
  · rw [okb_t hk] at SH
    rw [(sh_ok hk).1, (sh_ok hk).2]
    have PA := hidden (rpart (n := B) (p := P) ⟨by have := hk.1; omega, hk.1.2⟩ hk.2.1)
    generalize part B P = V at *
    clear hk
    go_enter Try.func9, Try.ntmps9
    go_wp2_with fail
    refine Calls.mono (SH.out _) ?_
    rintro e w1 ⟨rfl, hB⟩
    have O1 := hidden (O.out.later hB)
    obtain ⟨c0, c1, c2⟩ := cells3 O1.out (.head _)
    clear hB O SH
    go_wp2_with fail
    refine Calls.mono (PA.out _) ?_
    rintro e w2 ⟨rfl, rfl⟩
    go_wp2
    go_ret2
    exact ⟨rfl, O1.out.below⟩
  · rw [okb_f hk] at SH
    rw [(sh_no hk).1, (sh_no hk).2]
    clear hk
    go_enter Try.func9, Try.ntmps9
    go_wp2_with fail
    refine Calls.mono (SH.out _) ?_
    rintro e w1 ⟨rfl, hB⟩
    have O1 := hidden (O.out.later hB)
    clear hB O SH
    go_wp2
    go_ret2
    exact ⟨rfl, O1.out.below⟩
section
variable {w : World} {a : Option Addr} {n cap : Nat} {ys : List Int}
theorem rTotal (h : Nu w a n ys) : Calls Try.prog 13 #[.slice a n cap] w fun e w' => e = .returned (.tuple #[.int .i64 (toV ys), .int .i64 (toE ys)]) ∧ w = w' := by
  have hl := h.len
  have hn : n ≤ 140737488355328 := h.2.2.1
  by_cases h8 : n ≤ 8
  · have BO := hidden (numbers (cap := cap) h)
    cases hy : okY ys with
    | true =>
      rw [(to_ok (by omega) hy).1, (to_ok (by omega) hy).2]
      rw [hy] at BO
      have H := hidden h
      have HY := hidden ((okY_iff ys).1 hy)
      have HL := hidden hl
      clear h hl hy
      go_enter Try.func13, Try.ntmps13
      go_wp2_with fail
      refine Calls.mono BO.out ?_
      rintro e w1 ⟨rfl, rfl⟩
      clear BO
      go_wp2_with fail
      go_loopw [4, 5] (fun s i wr => ∃ q x : Int, 0 ≤ q ∧ q ≤ (n : Int) ∧ i = .int .i64 q ∧ s = .int .i64 x ∧ Hid (x = sm ys q.toNat) ∧ w = wr) (fun _ i _ => n - (intOf i).toNat)
      case atStart => exact ⟨0, 0, by omega, by omega, rfl, rfl, rfl, rfl⟩
      case round =>
        obtain ⟨q, x, j1, j2, rfl, rfl, HX, rfl⟩ := hrel
        by_cases hq : q < (n : Int)
        · obtain ⟨b, off, rfl, hb⟩ := Nu.open H.out (by omega)
          obtain ⟨y, hy, d0⟩ := Nu.get H.out (q := q.toNat) (by omega)
          have hs := sm_in HY.out q.toNat (by have := HL.out; omega)
          rw [← HX.out] at hs
          have hg := HY.out _ (List.mem_of_getElem? hy)
          have hw : IntKind.i64.wrap (x + y) = x + y := by rw [IntKind.wrap_i64]; omega
          have HN : Hid (x + y = sm ys (q + 1).toNat) := by
            show x + y = sm ys (q + 1).toNat
            rw [show (q + 1).toNat = q.toNat + 1 by omega, sm_next hy, HX.out]
          clear hy hs hg
          go_wp2
          go_roundw
          case rel => exact ⟨q + 1, x + y, by omega, by omega, rfl, by first | rfl | simp [hw], HN.out, by trivial⟩
          case measure => simp [intOf]; omega
        · obtain rfl : q = (n : Int) := by omega
          have HE : Hid (sm ys ys.length = x) := by
            show sm ys ys.length = x
            rw [HX.out, HL.out]
            rfl
          go_wp2
          go_ret2
          exact ⟨by rw [HE.out]; rfl, rfl⟩
    | false =>
      rw [(to_arg hy).1, (to_arg hy).2]
      rw [hy] at BO
      clear h hl hy
      go_enter Try.func13, Try.ntmps13
      go_wp2_with fail
      refine Calls.mono BO.out ?_
      rintro e w1 ⟨rfl, rfl⟩
      clear BO
      go_wp2
      go_ret2
      exact ⟨rfl, rfl⟩
  · rw [(to_many (by omega)).1, (to_many (by omega)).2]
    clear h hl
    go_enter Try.func13, Try.ntmps13
    go_wp2
    go_ret2
    exact ⟨rfl, rfl⟩
end
/-- two rows of numbers -/
theorem take_same {xs ys : List Int} {q : Nat} {x y : Int} (h : xs.take q = ys.take q) (hx : xs[q]? = some x) (hy : ys[q]? = some y) (e : x = y) : xs.take (q + 1) = ys.take (q + 1) := by
  rw [take_next hx, take_next hy, h, e]
section
variable {w : World} {a a2 : Option Addr} {n cap n2 cap2 : Nat} {xs ys : List Int}
theorem same (h : Nu w a n xs) (h2 : Nu w a2 n2 ys) : Calls Try.prog 14 #[.slice a n cap, .slice a2 n2 cap2] w fun e w' => e = .returned (.bool (decide (xs = ys))) ∧ Below w.heap.size w w' := by
  have hl := h.len
  have hl2 := h2.len
  have hn : n ≤ 140737488355328 := h.2.2.1
  have hn2 : n2 ≤ 140737488355328 := h2.2.2.1
  by_cases e : n = n2
  · subst e
    have H := hidden h
    have H2 := hidden h2
    have HL := hidden hl
    have HL2 := hidden hl2
    clear h h2 hl hl2
    go_enter Try.func14, Try.ntmps14
    go_wp2_with fail
    go_loopw [5] (fun i wr => ∃ q : Int, 0 ≤ q ∧ q ≤ (n : Int) ∧ i = .int .i64 q ∧ Hid (xs.take q.toNat = ys.take q.toNat) ∧ Hid (Below w.heap.size w wr)) (fun i _ => n - (intOf i).toNat)
    case atStart => exact ⟨0, by omega, by omega, rfl, rfl, Below.refl _ _⟩
    case round =>
      obtain ⟨q, j1, j2, rfl, HU, HB⟩ := hrel
      by_cases hq : q < (n : Int)
      · obtain ⟨b, off, rfl, hb⟩ := Nu.open H.out (by omega)
        obtain ⟨b2, off2, rfl, hb2⟩ := Nu.open H2.out (by omega)
        obtain ⟨x, hx, d0⟩ := Nu.get (H.out.later HB.out) (q := q.toNat) (by omega)
        obtain ⟨y, hy, d1⟩ := Nu.get (H2.out.later HB.out) (q := q.toNat) (by omega)
        by_cases he : x = y
        · have HN : Hid (xs.take (q + 1).toNat = ys.take (q + 1).toNat) := by
            show xs.take (q + 1).toNat = ys.take (q + 1).toNat
            rw [show (q + 1).toNat = q.toNat + 1 by omega]
            exact take_same HU.out hx hy he
          subst he
          clear hx hy
          go_wp2
          go_quiet (fail)
          go_wp2
          go_roundw
          case rel => exact ⟨q + 1, by omega, by omega, rfl, HN.out, below_drewN HB.out _⟩
          case measure => simp [intOf]; omega
        · have HG : Hid (decide (xs = ys) = false) := decide_eq_false fun h => by
            rw [h, hy] at hx
            cases hx
            exact he rfl
          clear hx hy
          go_wp2
          go_quiet (fail)
          go_wp2
          go_ret
          exact ⟨by rw [HG.out]; rfl, below_drewN HB.out _⟩
      · obtain rfl : q = (n : Int) := by omega
        have HG : Hid (decide (xs = ys) = true) := decide_eq_true (by
          have := HU.out
          rw [List.take_of_length_le (by rw [HL.out]; omega), List.take_of_length_le (by rw [HL2.out]; omega)] at this
          exact this)
        go_wp2
        go_ret
        exact ⟨by rw [HG.out]; rfl, HB.out⟩
  · have HG : Hid (decide (xs = ys) = false) := decide_eq_false fun h => e (by rw [← hl, ← hl2, h])
    rw [HG.out]
    have e1 : ¬ ((n : Int) = (n2 : Int)) := by omega
    clear h h2 hl hl2 e
    go_enter Try.func14, Try.ntmps14
    go_wp2
    go_ret
    exact ⟨rfl, Below.refl _ _⟩
end
end Go.Proofs.Ytbnmcjajhcgcnaa.Sh
