/-
  Windows: what is made of one, by a function that is handed in.
  Conditions: as at each lemma.
-/
import Derived.Test.YtaaghlgleofcgaaCwD
namespace Go.Proofs.Ytaaghlgleofcgaa.Cw
open Go.ChangeShapes Go.WideShapes Go.ChangeAt Go.RowKit
open Ba (hidden Has Only)
open Ow (Own)
set_option linter.unusedVariables false

/-- a window and an error's number, as a call answers them -/
abbrev Wd := Int × Int × Int × Int × Int
def tv (x : Wd) (e : Int) : Value := .tuple #[.agg #[.int .i64 x.1, .int .i64 x.2.1, .int .i64 x.2.2.1, .int .i64 x.2.2.2.1, .int .i64 x.2.2.2.2], .int .i64 e]
/-- the answer's block is set -/
theorem bel5 {w w1 : World} (h : Below w.heap.size w w1) (b : Nat) (u0 u1 u2 u3 u4 : Value) : Below w.heap.size w (((((w1.setCell ⟨w.heap.size + b, 0, none⟩ u0).setCell ⟨w.heap.size + b, 1, none⟩ u1).setCell ⟨w.heap.size + b, 2, none⟩ u2).setCell ⟨w.heap.size + b, 3, none⟩ u3).setCell ⟨w.heap.size + b, 4, none⟩ u4) :=
  ((((h.setCell (Nat.le_add_right _ _) _).setCell (Nat.le_add_right _ _) _).setCell (Nat.le_add_right _ _) _).setCell (Nat.le_add_right _ _) _).setCell (Nat.le_add_right _ _) _
theorem new_ne {w w1 : World} {L : List Ow.Bk} (h : Own w w1 L) : ∀ x ∈ L, x.1 ≠ w1.heap.size := fun x hx e => by
  have := (h.2 x hx).2.lt
  omega
/-- a window in a block of one's own -/
theorem ans {w w1 : World} {L : List Ow.Bk} {b : Nat} {c s p m k : Int} {t : TypeId} (h : Own w w1 L) (hx : (b, #[.int .i64 c, .int .i64 s, .int .i64 p, .int .i64 m, .int .i64 k], t) ∈ L) :
    (w1.cell? ⟨b, 0, none⟩ = some (.int .i64 c) ∧ w1.cell? ⟨b, 1, none⟩ = some (.int .i64 s) ∧ w1.cell? ⟨b, 2, none⟩ = some (.int .i64 p) ∧ w1.cell? ⟨b, 3, none⟩ = some (.int .i64 m) ∧ w1.cell? ⟨b, 4, none⟩ = some (.int .i64 k)) ∧ w1.frozen? ⟨b, 0, none⟩ = false ∧ w1.frozen? ⟨b, 1, none⟩ = false ∧ w1.frozen? ⟨b, 2, none⟩ = false ∧ w1.frozen? ⟨b, 3, none⟩ = false ∧ w1.frozen? ⟨b, 4, none⟩ = false :=
  ⟨cells5 h hx, h.frozen hx 0, h.frozen hx 1, h.frozen hx 2, h.frozen hx 3, h.frozen hx 4⟩
theorem own3 (w : World) (c s p m k n : Int) : Own w (((w.alloc (.cells #[.int .i64 c, .int .i64 s, .int .i64 p, .int .i64 m, .int .i64 k] 23)).alloc (.cells #[.int .i64 0, .int .i64 0, .int .i64 0, .int .i64 0, .int .i64 0] 23)).alloc (.cells #[.int .i64 c, .int .i64 s, .int .i64 p, .int .i64 m, .int .i64 k, .int .i64 n] 50)) [(w.heap.size + 2, #[.int .i64 c, .int .i64 s, .int .i64 p, .int .i64 m, .int .i64 k, .int .i64 n], 50), (w.heap.size + 1, #[.int .i64 0, .int .i64 0, .int .i64 0, .int .i64 0, .int .i64 0], 23), (w.heap.size, #[.int .i64 c, .int .i64 s, .int .i64 p, .int .i64 m, .int .i64 k], 23)] := by
  have h := (((Own.refl w).alloc #[.int .i64 c, .int .i64 s, .int .i64 p, .int .i64 m, .int .i64 k] 23).alloc #[.int .i64 0, .int .i64 0, .int .i64 0, .int .i64 0, .int .i64 0] 23).alloc #[.int .i64 c, .int .i64 s, .int .i64 p, .int .i64 m, .int .i64 k, .int .i64 n] 50
  simpa using h
set_option maxHeartbeats 1000000 in
theorem change_no {c s p m k : Int} (hc : ¬ mayP c s p m k) (n : Int) (v : Value) (w : World) : Calls Try.prog 26 #[.agg #[.int .i64 c, .int .i64 s, .int .i64 p, .int .i64 m, .int .i64 k], .int .i64 n, v] w fun e w' => e = .returned (tv (0, 0, 0, 0, 0) 120) ∧ Below w.heap.size w w' := by
  have C := hidden (check c s p m k)
  rw [chk_no hc] at C
  have O := hidden (own3 w c s p m k n)
  unfold tv
  simp only
  clear hc
  go_enter Try.func26, Try.ntmps26
  go_wp2_with fail
  refine Calls.mono (C.out _) ?_
  rintro e w1 ⟨rfl, hB1⟩
  have O1 := hidden (O.out.later hB1).below
  have hl1 : w.heap.size + 2 < w1.heap.size := ((O.out.later hB1).lt (.head _))
  obtain ⟨⟨r0, r1, r2, r3, r4⟩, f0, f1, f2, f3, f4⟩ := ans (O.out.later hB1) (b := w.heap.size + 1) (.tail _ (.head _))
  clear hB1 O C
  go_wp2
  refine bodyPost_ret (v := .tuple #[.agg #[.int .i64 0, .int .i64 0, .int .i64 0, .int .i64 0, .int .i64 0], .int .i64 120]) (by rw [results_cell_tmp rfl]; go_simp) rfl ⟨rfl, ?_⟩
  exact bel5 O1.out 1 _ _ _ _ _
set_option maxHeartbeats 1000000 in
theorem change_range {c s p m k : Int} (hc : mayP c s p m k) {n : Int} (hn : ¬ (0 ≤ n ∧ n ≤ 1073741824)) (v : Value) (w : World) : Calls Try.prog 26 #[.agg #[.int .i64 c, .int .i64 s, .int .i64 p, .int .i64 m, .int .i64 k], .int .i64 n, v] w fun e w' => e = .returned (tv (0, 0, 0, 0, 0) 5) ∧ Below w.heap.size w w' := by
  have C := hidden (check c s p m k)
  rw [chk_ok hc] at C
  have O := hidden (own3 w c s p m k n)
  have RS : Hid (∀ W b, Has W b #[.int .i64 0, .int .i64 n, .int .i64 1073741824] 3 → Calls Try.prog 42 #[.slice (some ⟨b, 0, none⟩) 3 3] W fun e w' => e = .returned (.bool false) ∧ Sm W w') := fun W b h => by
    have := rise3 h
    rw [decide_eq_false hn] at this
    exact this
  unfold tv
  simp only
  clear hc hn
  go_enter Try.func26, Try.ntmps26
  go_wp2_with fail
  refine Calls.mono (C.out _) ?_
  rintro e w1 ⟨rfl, hB1⟩
  have O1 := hidden (O.out.later hB1)
  have hl1 : w.heap.size + 2 < w1.heap.size := O1.out.lt (.head _)
  have c5 := O1.out.cell (b := w.heap.size + 2) (.head _) 5 rfl
  clear hB1 O C
  go_wp2_with fail
  refine Calls.mono (RS.out _ _ (Has.new w1 _ _)) ?_
  rintro e w2 ⟨rfl, hS⟩
  have O2 := hidden ((O1.out.alloc #[.int .i64 0, .int .i64 n, .int .i64 1073741824] 3).later hS.2)
  have hl2 : w.heap.size + 2 < w2.heap.size := O2.out.lt (.tail _ (.head _))
  obtain ⟨⟨r0, r1, r2, r3, r4⟩, f0, f1, f2, f3, f4⟩ := ans O2.out (b := w.heap.size + 1) (.tail _ (.tail _ (.head _)))
  clear hS O1 RS c5
  go_wp2
  refine bodyPost_ret (v := .tuple #[.agg #[.int .i64 0, .int .i64 0, .int .i64 0, .int .i64 0, .int .i64 0], .int .i64 5]) (by rw [results_cell_tmp rfl]; go_simp) rfl ⟨rfl, ?_⟩
  exact bel5 O2.out.below 1 _ _ _ _ _
/-- an acknowledgement: the window, what is saved up -/
def akC (c s p m k n : Int) (f : Bool) : Int := if c ≤ s then (bif f then min (c + min n m) k else c) else if p + n < c then c else (bif f then min (c + m) k else c)
def akP (c s p m k n : Int) (f : Bool) : Int := if c ≤ s then p else if p + n < c then p + n else (bif f then min (p + n - c) (min (c + m) k) else c)
section
variable {w : World} {b : Nat} {c s p m k y : Int}
theorem ackAll (hM : mayP c s p m k) (hy : 0 ≤ y ∧ y ≤ 1073741824) (f : Bool) (h : Has w b #[.int .i64 c, .int .i64 s, .int .i64 p, .int .i64 m, .int .i64 k, .int .i64 y] 50) : Calls Try.prog 28 #[.pointer (some ⟨b, 0, none⟩), .bool f] w fun e w' => e = .returned (.tuple #[]) ∧ Has w' b #[.int .i64 (akC c s p m k y f), .int .i64 s, .int .i64 (akP c s p m k y f), .int .i64 m, .int .i64 k, .int .i64 y] 50 ∧ Only [b] w w' := by
  obtain ⟨⟨h1, h2⟩, h3, h4, h5⟩ := hM
  unfold akC akP
  by_cases hs : c ≤ s
  · rw [if_pos hs, if_pos hs]
    cases f
    · exact ackB hs h
    · have := ackA (y := y) h1 hy (by omega) hs h
      rw [show min (max (c + min y m) m) k = min (c + min y m) k by omega] at this
      exact this
  · rw [if_neg hs, if_neg hs]
    by_cases hq : p + y < c
    · rw [if_pos hq, if_pos hq]
      refine ackC f hs (fun W h => ?_) h
      cases f
      · have := saveC (y := y) (by omega) hy (by omega) h
        rw [show min (max (p + y) 0) c = p + y by omega] at this
        exact this
      · have := saveB (y := y) (by omega) hy (by omega) hq h
        rw [show min (max (p + y) 0) c = p + y by omega] at this
        exact this
    · rw [if_neg hq, if_neg hq]
      refine ackC f hs (fun W h => ?_) h
      cases f
      · have := saveC (y := y) (by omega) hy (by omega) h
        rw [show min (max (p + y) 0) c = c by omega] at this
        exact this
      · have := saveA (y := y) (by omega) hy (by omega) (by omega) (by omega) h
        rw [show min (max (c + m) m) k = min (c + m) k by omega, show max (p + y - c) 0 = p + y - c by omega] at this
        exact this
theorem ackF (mv f : Bool) {bm bf : Nat} {c' p' : Int} (cm : w.cell? ⟨bm, 0, none⟩ = some (.bool mv)) (cf : w.cell? ⟨bf, 0, none⟩ = some (.bool f)) (h : Has w b #[.int .i64 c, .int .i64 s, .int .i64 p, .int .i64 m, .int .i64 k, .int .i64 y] 50)
    (h0 : mv = false → c' = c ∧ p' = p) (h1 : mv = true → ∀ W, Has W b #[.int .i64 c, .int .i64 s, .int .i64 p, .int .i64 m, .int .i64 k, .int .i64 y] 50 → Calls Try.prog 28 #[.pointer (some ⟨b, 0, none⟩), .bool f] W fun e w' => e = .returned (.tuple #[]) ∧ Has w' b #[.int .i64 c', .int .i64 s, .int .i64 p', .int .i64 m, .int .i64 k, .int .i64 y] 50 ∧ Only [b] W w') :
    Calls Try.prog 27 #[.pointer (some ⟨b, 0, none⟩), .pointer (some ⟨bm, 0, none⟩), .pointer (some ⟨bf, 0, none⟩)] w fun e w' => e = .returned (.tuple #[]) ∧ Has w' b #[.int .i64 c', .int .i64 s, .int .i64 p', .int .i64 m, .int .i64 k, .int .i64 y] 50 ∧ Only [b] w w' := by
  cases mv
  · obtain ⟨rfl, rfl⟩ := h0 rfl
    have H := hidden h
    clear h h0 h1
    go_enter Try.func27, Try.ntmps27
    go_wp2
    go_end0
    exact ⟨rfl, H.out, Only.refl _ w⟩
  · have AC := hidden (h1 rfl w h)
    clear h h0 h1
    go_enter Try.func27, Try.ntmps27
    go_wp2_with fail
    refine Calls.mono AC.out ?_
    rintro e w2 ⟨rfl, hH, hO⟩
    have H2 := hidden (And.intro hH hO)
    clear hH hO AC
    go_wp2
    go_end0
    exact ⟨rfl, H2.out⟩
end
set_option maxHeartbeats 1000000 in
theorem change_grow {c s p m k : Int} (hc : mayP c s p m k) {n c' s' p' : Int} (hn : 0 ≤ n ∧ n ≤ 1073741824) (w : World) (HW : ∀ W b, Has W b #[.int .i64 c, .int .i64 s, .int .i64 p, .int .i64 m, .int .i64 k, .int .i64 n] 50 → Calls Try.prog 30 #[.pointer (some ⟨b, 0, none⟩)] W fun e w' => e = .returned (.tuple #[]) ∧ Has w' b #[.int .i64 c', .int .i64 s', .int .i64 p', .int .i64 m, .int .i64 k, .int .i64 n] 50 ∧ Only [b] W w') : Calls Try.prog 26 #[.agg #[.int .i64 c, .int .i64 s, .int .i64 p, .int .i64 m, .int .i64 k], .int .i64 n, .func (.func 30) #[] #[]] w fun e w' => e = .returned (tv (c', s', p', m, k) 0) ∧ Below w.heap.size w w' := by
  have C := hidden (check c s p m k)
  rw [chk_ok hc] at C
  have O := hidden (own3 w c s p m k n)
  have HW := hidden HW
  have RS : Hid (∀ W b, Has W b #[.int .i64 0, .int .i64 n, .int .i64 1073741824] 3 → Calls Try.prog 42 #[.slice (some ⟨b, 0, none⟩) 3 3] W fun e w' => e = .returned (.bool true) ∧ Sm W w') := fun W b h => by
    have := rise3 h
    rw [decide_eq_true hn] at this
    exact this
  unfold tv
  simp only
  clear hc hn
  go_enter Try.func26, Try.ntmps26
  go_wp2_with fail
  refine Calls.mono (C.out _) ?_
  rintro e w1 ⟨rfl, hB1⟩
  have O1 := hidden (O.out.later hB1)
  have hl1 : w.heap.size + 2 < w1.heap.size := O1.out.lt (.head _)
  have c5 := O1.out.cell (b := w.heap.size + 2) (.head _) 5 rfl
  clear hB1 O C
  go_wp2_with fail
  refine Calls.mono (RS.out _ _ (Has.new w1 _ _)) ?_
  rintro e w2 ⟨rfl, hS⟩
  have O2 := hidden (((O1.out.alloc #[.int .i64 0, .int .i64 n, .int .i64 1073741824] 3).later hS.2).sub (M := [(w.heap.size + 2, #[.int .i64 c, .int .i64 s, .int .i64 p, .int .i64 m, .int .i64 k, .int .i64 n], 50), (w.heap.size + 1, #[.int .i64 0, .int .i64 0, .int .i64 0, .int .i64 0, .int .i64 0], 23)]) (by simp))
  clear hS O1 RS c5 hl1
  go_wp2_with fail
  refine Calls.mono (HW.out _ _ (O2.out.has (.head _))) ?_
  rintro e w3 ⟨rfl, hH, hO⟩
  have O3 := hidden (O2.out.turn hO hH (by simp))
  obtain ⟨d0, d1, d2, d3, d4, d5⟩ := cells6 hH
  obtain ⟨⟨r0, r1, r2, r3, r4⟩, f0, f1, f2, f3, f4⟩ := ans O3.out (b := w.heap.size + 1) (.tail _ (.head _))
  clear hH hO O2 HW
  go_wp2
  refine bodyPost_ret (v := .tuple #[.agg #[.int .i64 c', .int .i64 s', .int .i64 p', .int .i64 m, .int .i64 k], .int .i64 0]) (by rw [results_cell_tmp rfl]; go_simp) rfl ⟨rfl, ?_⟩
  exact bel5 O3.out.below 1 _ _ _ _ _
set_option maxHeartbeats 1000000 in
theorem change_fast {c s p m k : Int} (hc : mayP c s p m k) {n c' s' p' : Int} (hn : 0 ≤ n ∧ n ≤ 1073741824) (w : World) (HW : ∀ W b, Has W b #[.int .i64 c, .int .i64 s, .int .i64 p, .int .i64 m, .int .i64 k, .int .i64 n] 50 → Calls Try.prog 32 #[.pointer (some ⟨b, 0, none⟩)] W fun e w' => e = .returned (.tuple #[]) ∧ Has w' b #[.int .i64 c', .int .i64 s', .int .i64 p', .int .i64 m, .int .i64 k, .int .i64 n] 50 ∧ Only [b] W w') : Calls Try.prog 26 #[.agg #[.int .i64 c, .int .i64 s, .int .i64 p, .int .i64 m, .int .i64 k], .int .i64 n, .func (.func 32) #[] #[]] w fun e w' => e = .returned (tv (c', s', p', m, k) 0) ∧ Below w.heap.size w w' := by
  have C := hidden (check c s p m k)
  rw [chk_ok hc] at C
  have O := hidden (own3 w c s p m k n)
  have HW := hidden HW
  have RS : Hid (∀ W b, Has W b #[.int .i64 0, .int .i64 n, .int .i64 1073741824] 3 → Calls Try.prog 42 #[.slice (some ⟨b, 0, none⟩) 3 3] W fun e w' => e = .returned (.bool true) ∧ Sm W w') := fun W b h => by
    have := rise3 h
    rw [decide_eq_true hn] at this
    exact this
  unfold tv
  simp only
  clear hc hn
  go_enter Try.func26, Try.ntmps26
  go_wp2_with fail
  refine Calls.mono (C.out _) ?_
  rintro e w1 ⟨rfl, hB1⟩
  have O1 := hidden (O.out.later hB1)
  have hl1 : w.heap.size + 2 < w1.heap.size := O1.out.lt (.head _)
  have c5 := O1.out.cell (b := w.heap.size + 2) (.head _) 5 rfl
  clear hB1 O C
  go_wp2_with fail
  refine Calls.mono (RS.out _ _ (Has.new w1 _ _)) ?_
  rintro e w2 ⟨rfl, hS⟩
  have O2 := hidden (((O1.out.alloc #[.int .i64 0, .int .i64 n, .int .i64 1073741824] 3).later hS.2).sub (M := [(w.heap.size + 2, #[.int .i64 c, .int .i64 s, .int .i64 p, .int .i64 m, .int .i64 k, .int .i64 n], 50), (w.heap.size + 1, #[.int .i64 0, .int .i64 0, .int .i64 0, .int .i64 0, .int .i64 0], 23)]) (by simp))
  clear hS O1 RS c5 hl1
  go_wp2_with fail
  refine Calls.mono (HW.out _ _ (O2.out.has (.head _))) ?_
  rintro e w3 ⟨rfl, hH, hO⟩
  have O3 := hidden (O2.out.turn hO hH (by simp))
  obtain ⟨d0, d1, d2, d3, d4, d5⟩ := cells6 hH
  obtain ⟨⟨r0, r1, r2, r3, r4⟩, f0, f1, f2, f3, f4⟩ := ans O3.out (b := w.heap.size + 1) (.tail _ (.head _))
  clear hH hO O2 HW
  go_wp2
  refine bodyPost_ret (v := .tuple #[.agg #[.int .i64 c', .int .i64 s', .int .i64 p', .int .i64 m, .int .i64 k], .int .i64 0]) (by rw [results_cell_tmp rfl]; go_simp) rfl ⟨rfl, ?_⟩
  exact bel5 O3.out.below 1 _ _ _ _ _
set_option maxHeartbeats 1000000 in
theorem change_time {c s p m k : Int} (hc : mayP c s p m k) {n c' s' p' : Int} (hn : 0 ≤ n ∧ n ≤ 1073741824) (w : World) (HW : ∀ W b, Has W b #[.int .i64 c, .int .i64 s, .int .i64 p, .int .i64 m, .int .i64 k, .int .i64 n] 50 → Calls Try.prog 35 #[.pointer (some ⟨b, 0, none⟩)] W fun e w' => e = .returned (.tuple #[]) ∧ Has w' b #[.int .i64 c', .int .i64 s', .int .i64 p', .int .i64 m, .int .i64 k, .int .i64 n] 50 ∧ Only [b] W w') : Calls Try.prog 26 #[.agg #[.int .i64 c, .int .i64 s, .int .i64 p, .int .i64 m, .int .i64 k], .int .i64 n, .func (.func 35) #[] #[]] w fun e w' => e = .returned (tv (c', s', p', m, k) 0) ∧ Below w.heap.size w w' := by
  have C := hidden (check c s p m k)
  rw [chk_ok hc] at C
  have O := hidden (own3 w c s p m k n)
  have HW := hidden HW
  have RS : Hid (∀ W b, Has W b #[.int .i64 0, .int .i64 n, .int .i64 1073741824] 3 → Calls Try.prog 42 #[.slice (some ⟨b, 0, none⟩) 3 3] W fun e w' => e = .returned (.bool true) ∧ Sm W w') := fun W b h => by
    have := rise3 h
    rw [decide_eq_true hn] at this
    exact this
  unfold tv
  simp only
  clear hc hn
  go_enter Try.func26, Try.ntmps26
  go_wp2_with fail
  refine Calls.mono (C.out _) ?_
  rintro e w1 ⟨rfl, hB1⟩
  have O1 := hidden (O.out.later hB1)
  have hl1 : w.heap.size + 2 < w1.heap.size := O1.out.lt (.head _)
  have c5 := O1.out.cell (b := w.heap.size + 2) (.head _) 5 rfl
  clear hB1 O C
  go_wp2_with fail
  refine Calls.mono (RS.out _ _ (Has.new w1 _ _)) ?_
  rintro e w2 ⟨rfl, hS⟩
  have O2 := hidden (((O1.out.alloc #[.int .i64 0, .int .i64 n, .int .i64 1073741824] 3).later hS.2).sub (M := [(w.heap.size + 2, #[.int .i64 c, .int .i64 s, .int .i64 p, .int .i64 m, .int .i64 k, .int .i64 n], 50), (w.heap.size + 1, #[.int .i64 0, .int .i64 0, .int .i64 0, .int .i64 0, .int .i64 0], 23)]) (by simp))
  clear hS O1 RS c5 hl1
  go_wp2_with fail
  refine Calls.mono (HW.out _ _ (O2.out.has (.head _))) ?_
  rintro e w3 ⟨rfl, hH, hO⟩
  have O3 := hidden (O2.out.turn hO hH (by simp))
  obtain ⟨d0, d1, d2, d3, d4, d5⟩ := cells6 hH
  obtain ⟨⟨r0, r1, r2, r3, r4⟩, f0, f1, f2, f3, f4⟩ := ans O3.out (b := w.heap.size + 1) (.tail _ (.head _))
  clear hH hO O2 HW
  go_wp2
  refine bodyPost_ret (v := .tuple #[.agg #[.int .i64 c', .int .i64 s', .int .i64 p', .int .i64 m, .int .i64 k], .int .i64 0]) (by rw [results_cell_tmp rfl]; go_simp) rfl ⟨rfl, ?_⟩
  exact bel5 O3.out.below 1 _ _ _ _ _
set_option maxHeartbeats 1000000 in
theorem change_idle {c s p m k : Int} (hc : mayP c s p m k) {n c' s' p' : Int} (hn : 0 ≤ n ∧ n ≤ 1073741824) (w : World) (HW : ∀ W b, Has W b #[.int .i64 c, .int .i64 s, .int .i64 p, .int .i64 m, .int .i64 k, .int .i64 n] 50 → Calls Try.prog 36 #[.pointer (some ⟨b, 0, none⟩)] W fun e w' => e = .returned (.tuple #[]) ∧ Has w' b #[.int .i64 c', .int .i64 s', .int .i64 p', .int .i64 m, .int .i64 k, .int .i64 n] 50 ∧ Only [b] W w') : Calls Try.prog 26 #[.agg #[.int .i64 c, .int .i64 s, .int .i64 p, .int .i64 m, .int .i64 k], .int .i64 n, .func (.func 36) #[] #[]] w fun e w' => e = .returned (tv (c', s', p', m, k) 0) ∧ Below w.heap.size w w' := by
  have C := hidden (check c s p m k)
  rw [chk_ok hc] at C
  have O := hidden (own3 w c s p m k n)
  have HW := hidden HW
  have RS : Hid (∀ W b, Has W b #[.int .i64 0, .int .i64 n, .int .i64 1073741824] 3 → Calls Try.prog 42 #[.slice (some ⟨b, 0, none⟩) 3 3] W fun e w' => e = .returned (.bool true) ∧ Sm W w') := fun W b h => by
    have := rise3 h
    rw [decide_eq_true hn] at this
    exact this
  unfold tv
  simp only
  clear hc hn
  go_enter Try.func26, Try.ntmps26
  go_wp2_with fail
  refine Calls.mono (C.out _) ?_
  rintro e w1 ⟨rfl, hB1⟩
  have O1 := hidden (O.out.later hB1)
  have hl1 : w.heap.size + 2 < w1.heap.size := O1.out.lt (.head _)
  have c5 := O1.out.cell (b := w.heap.size + 2) (.head _) 5 rfl
  clear hB1 O C
  go_wp2_with fail
  refine Calls.mono (RS.out _ _ (Has.new w1 _ _)) ?_
  rintro e w2 ⟨rfl, hS⟩
  have O2 := hidden (((O1.out.alloc #[.int .i64 0, .int .i64 n, .int .i64 1073741824] 3).later hS.2).sub (M := [(w.heap.size + 2, #[.int .i64 c, .int .i64 s, .int .i64 p, .int .i64 m, .int .i64 k, .int .i64 n], 50), (w.heap.size + 1, #[.int .i64 0, .int .i64 0, .int .i64 0, .int .i64 0, .int .i64 0], 23)]) (by simp))
  clear hS O1 RS c5 hl1
  go_wp2_with fail
  refine Calls.mono (HW.out _ _ (O2.out.has (.head _))) ?_
  rintro e w3 ⟨rfl, hH, hO⟩
  have O3 := hidden (O2.out.turn hO hH (by simp))
  obtain ⟨d0, d1, d2, d3, d4, d5⟩ := cells6 hH
  obtain ⟨⟨r0, r1, r2, r3, r4⟩, f0, f1, f2, f3, f4⟩ := ans O3.out (b := w.heap.size + 1) (.tail _ (.head _))
  clear hH hO O2 HW
  go_wp2
  refine bodyPost_ret (v := .tuple #[.agg #[.int .i64 c', .int .i64 s', .int .i64 p', .int .i64 m, .int .i64 k], .int .i64 0]) (by rw [results_cell_tmp rfl]; go_simp) rfl ⟨rfl, ?_⟩
  exact bel5 O3.out.below 1 _ _ _ _ _
set_option maxHeartbeats 1000000 in
theorem change_ack {c s p m k : Int} (hc : mayP c s p m k) {n c' s' p' : Int} {bm bf : Nat} (hn : 0 ≤ n ∧ n ≤ 1073741824) (w : World) (HW : ∀ W b, Below w.heap.size w W → Has W b #[.int .i64 c, .int .i64 s, .int .i64 p, .int .i64 m, .int .i64 k, .int .i64 n] 50 → Calls Try.prog 27 #[.pointer (some ⟨b, 0, none⟩), .pointer (some ⟨bm, 0, none⟩), .pointer (some ⟨bf, 0, none⟩)] W fun e w' => e = .returned (.tuple #[]) ∧ Has w' b #[.int .i64 c', .int .i64 s', .int .i64 p', .int .i64 m, .int .i64 k, .int .i64 n] 50 ∧ Only [b] W w') : Calls Try.prog 26 #[.agg #[.int .i64 c, .int .i64 s, .int .i64 p, .int .i64 m, .int .i64 k], .int .i64 n, .func (.func 27) #[] #[.pointer (some ⟨bm, 0, none⟩), .pointer (some ⟨bf, 0, none⟩)]] w fun e w' => e = .returned (tv (c', s', p', m, k) 0) ∧ Below w.heap.size w w' := by
  have C := hidden (check c s p m k)
  rw [chk_ok hc] at C
  have O := hidden (own3 w c s p m k n)
  have HW := hidden HW
  have RS : Hid (∀ W b, Has W b #[.int .i64 0, .int .i64 n, .int .i64 1073741824] 3 → Calls Try.prog 42 #[.slice (some ⟨b, 0, none⟩) 3 3] W fun e w' => e = .returned (.bool true) ∧ Sm W w') := fun W b h => by
    have := rise3 h
    rw [decide_eq_true hn] at this
    exact this
  unfold tv
  simp only
  clear hc hn
  go_enter Try.func26, Try.ntmps26
  go_wp2_with fail
  refine Calls.mono (C.out _) ?_
  rintro e w1 ⟨rfl, hB1⟩
  have O1 := hidden (O.out.later hB1)
  have hl1 : w.heap.size + 2 < w1.heap.size := O1.out.lt (.head _)
  have c5 := O1.out.cell (b := w.heap.size + 2) (.head _) 5 rfl
  clear hB1 O C
  go_wp2_with fail
  refine Calls.mono (RS.out _ _ (Has.new w1 _ _)) ?_
  rintro e w2 ⟨rfl, hS⟩
  have O2 := hidden (((O1.out.alloc #[.int .i64 0, .int .i64 n, .int .i64 1073741824] 3).later hS.2).sub (M := [(w.heap.size + 2, #[.int .i64 c, .int .i64 s, .int .i64 p, .int .i64 m, .int .i64 k, .int .i64 n], 50), (w.heap.size + 1, #[.int .i64 0, .int .i64 0, .int .i64 0, .int .i64 0, .int .i64 0], 23)]) (by simp))
  clear hS O1 RS c5 hl1
  go_wp2_with fail
  refine Calls.mono (HW.out _ _ O2.out.below (O2.out.has (.head _))) ?_
  rintro e w3 ⟨rfl, hH, hO⟩
  have O3 := hidden (O2.out.turn hO hH (by simp))
  obtain ⟨d0, d1, d2, d3, d4, d5⟩ := cells6 hH
  obtain ⟨⟨r0, r1, r2, r3, r4⟩, f0, f1, f2, f3, f4⟩ := ans O3.out (b := w.heap.size + 1) (.tail _ (.head _))
  clear hH hO O2 HW
  go_wp2
  refine bodyPost_ret (v := .tuple #[.agg #[.int .i64 c', .int .i64 s', .int .i64 p', .int .i64 m, .int .i64 k], .int .i64 0]) (by rw [results_cell_tmp rfl]; go_simp) rfl ⟨rfl, ?_⟩
  exact bel5 O3.out.below 1 _ _ _ _ _
/-- answers -/
abbrev Rn := Wd × Int
def no (e : Int) : Rn := ((0, 0, 0, 0, 0), e)
def ask (c s p m k n : Int) (x : Wd) : Rn := if mayP c s p m k then (if 0 ≤ n ∧ n ≤ 1073741824 then (x, 0) else no 5) else no 120
def ackV (c s p m k n : Int) (f mv : Bool) : Rn := ask c s p m k n (bif mv then (akC c s p m k n f, s, akP c s p m k n f, m, k) else (c, s, p, m, k))
def growV (c s p m k n : Int) : Rn := ask c s p m k n (min (c + n) k, s, p, m, k)
def fastV (c s p m k : Int) : Rn := ask c s p m k 0 (min (max (c / 2) (4 * m)) k, max (c / 2) (4 * m), 0, m, k)
def timeV (c s p m k : Int) : Rn := ask c s p m k 0 (m, max (c / 2) (4 * m), 0, m, k)
def idleV (c s p m k : Int) : Rn := ask c s p m k 0 (min (max (c / 2) (4 * m)) c, s, 0, m, k)
def tr (x : Rn) : Value := tv x.1 x.2
/-- a change, whatever comes in -/
theorem changeA (c s p m k n : Int) (v : Value) (x : Wd) (w : World) (h : mayP c s p m k → 0 ≤ n ∧ n ≤ 1073741824 → Calls Try.prog 26 #[.agg #[.int .i64 c, .int .i64 s, .int .i64 p, .int .i64 m, .int .i64 k], .int .i64 n, v] w fun e w' => e = .returned (tv x 0) ∧ Below w.heap.size w w') :
    Calls Try.prog 26 #[.agg #[.int .i64 c, .int .i64 s, .int .i64 p, .int .i64 m, .int .i64 k], .int .i64 n, v] w fun e w' => e = .returned (tr (ask c s p m k n x)) ∧ Below w.heap.size w w' := by
  by_cases hM : mayP c s p m k
  · by_cases hn : 0 ≤ n ∧ n ≤ 1073741824
    · rw [show ask c s p m k n x = (x, 0) by unfold ask; rw [if_pos hM, if_pos hn]]
      exact h hM hn
    · rw [show ask c s p m k n x = no 5 by unfold ask; rw [if_pos hM, if_neg hn]]
      exact change_range hM hn v w
  · rw [show ask c s p m k n x = no 120 by unfold ask; rw [if_neg hM]]
    exact change_no hM n v w
theorem changeGrow (c s p m k n : Int) (w : World) : Calls Try.prog 26 #[.agg #[.int .i64 c, .int .i64 s, .int .i64 p, .int .i64 m, .int .i64 k], .int .i64 n, .func (.func 30) #[] #[]] w fun e w' => e = .returned (tr (ask c s p m k n (min (c + n) k, s, p, m, k))) ∧ Below w.heap.size w w' :=
  changeA c s p m k n _ _ w fun hM hn => by
    have := hM.2
    exact change_grow hM hn w fun W b h => by
      have := growF (y := n) hM.1.1 hn (by omega) h
      rw [show min (max (c + n) m) k = min (c + n) k by omega] at this
      exact this
theorem changeFast (c s p m k : Int) (w : World) : Calls Try.prog 26 #[.agg #[.int .i64 c, .int .i64 s, .int .i64 p, .int .i64 m, .int .i64 k], .int .i64 0, .func (.func 32) #[] #[]] w fun e w' => e = .returned (tr (ask c s p m k 0 (min (max (c / 2) (4 * m)) k, max (c / 2) (4 * m), 0, m, k))) ∧ Below w.heap.size w w' :=
  changeA c s p m k 0 _ _ w fun hM hn => by
    have := hM.2
    exact change_fast hM hn w fun W b h => fastF hM.1.1 (by omega) h
theorem changeTime (c s p m k : Int) (w : World) : Calls Try.prog 26 #[.agg #[.int .i64 c, .int .i64 s, .int .i64 p, .int .i64 m, .int .i64 k], .int .i64 0, .func (.func 35) #[] #[]] w fun e w' => e = .returned (tr (ask c s p m k 0 (m, max (c / 2) (4 * m), 0, m, k))) ∧ Below w.heap.size w w' :=
  changeA c s p m k 0 _ _ w fun hM hn => by
    have := hM.2
    exact change_time hM hn w fun W b h => by
      have := timeF (y := 0) hM.1.1 (by omega) h
      rw [show min m k = m by omega] at this
      exact this
theorem changeIdle (c s p m k : Int) (w : World) : Calls Try.prog 26 #[.agg #[.int .i64 c, .int .i64 s, .int .i64 p, .int .i64 m, .int .i64 k], .int .i64 0, .func (.func 36) #[] #[]] w fun e w' => e = .returned (tr (ask c s p m k 0 (min (max (c / 2) (4 * m)) c, s, 0, m, k))) ∧ Below w.heap.size w w' :=
  changeA c s p m k 0 _ _ w fun hM hn => by
    have := hM.2
    exact change_idle hM hn w fun W b h => idleF hM.1.1 (by omega) h
theorem changeAck (c s p m k n : Int) (mv f : Bool) {bm bf : Nat} {w : World} (cm : w.cell? ⟨bm, 0, none⟩ = some (.bool mv)) (cf : w.cell? ⟨bf, 0, none⟩ = some (.bool f)) : Calls Try.prog 26 #[.agg #[.int .i64 c, .int .i64 s, .int .i64 p, .int .i64 m, .int .i64 k], .int .i64 n, .func (.func 27) #[] #[.pointer (some ⟨bm, 0, none⟩), .pointer (some ⟨bf, 0, none⟩)]] w fun e w' => e = .returned (tr (ackV c s p m k n f mv)) ∧ Below w.heap.size w w' :=
  changeA c s p m k n _ _ w fun hM hn => by
    have lm := Ba.cell_lt cm
    have lf := Ba.cell_lt cf
    cases mv
    · exact change_ack hM hn w fun W b hB h => ackF false f ((hB.cell lm).trans cm) ((hB.cell lf).trans cf) h (fun _ => ⟨rfl, rfl⟩) (fun e => by cases e)
    · exact change_ack hM hn w fun W b hB h => ackF true f ((hB.cell lm).trans cm) ((hB.cell lf).trans cf) h (fun e => by cases e) (fun _ W h => ackAll hM hn f h)
theorem ow2 (w : World) (c s p m k : Int) : Own w ((w.alloc (.cells #[.int .i64 c, .int .i64 s, .int .i64 p, .int .i64 m, .int .i64 k] 23)).alloc (.cells #[.int .i64 0, .int .i64 0, .int .i64 0, .int .i64 0, .int .i64 0] 23)) [(w.heap.size + 1, #[.int .i64 0, .int .i64 0, .int .i64 0, .int .i64 0, .int .i64 0], 23), (w.heap.size, #[.int .i64 c, .int .i64 s, .int .i64 p, .int .i64 m, .int .i64 k], 23)] := by
  have h := ((Own.refl w).alloc #[.int .i64 c, .int .i64 s, .int .i64 p, .int .i64 m, .int .i64 k] 23).alloc #[.int .i64 0, .int .i64 0, .int .i64 0, .int .i64 0, .int .i64 0] 23
  simpa using h
theorem ow4 (w : World) (c s p m k : Int) (f mv : Bool) : Own w ((((w.alloc (.cells #[.int .i64 c, .int .i64 s, .int .i64 p, .int .i64 m, .int .i64 k] 23)).alloc (.cells #[.bool f] 4)).alloc (.cells #[.bool mv] 4)).alloc (.cells #[.int .i64 0, .int .i64 0, .int .i64 0, .int .i64 0, .int .i64 0] 23)) [(w.heap.size + 3, #[.int .i64 0, .int .i64 0, .int .i64 0, .int .i64 0, .int .i64 0], 23), (w.heap.size + 2, #[.bool mv], 4), (w.heap.size + 1, #[.bool f], 4), (w.heap.size, #[.int .i64 c, .int .i64 s, .int .i64 p, .int .i64 m, .int .i64 k], 23)] := by
  have h := ((((Own.refl w).alloc #[.int .i64 c, .int .i64 s, .int .i64 p, .int .i64 m, .int .i64 k] 23).alloc #[.bool f] 4).alloc #[.bool mv] 4).alloc #[.int .i64 0, .int .i64 0, .int .i64 0, .int .i64 0, .int .i64 0] 23
  simpa using h
set_option maxHeartbeats 1000000 in
theorem growX (c s p m k : Int) (n : Int) (w : World) : Calls Try.prog 10 #[.agg #[.int .i64 c, .int .i64 s, .int .i64 p, .int .i64 m, .int .i64 k], .int .i64 n] w fun e w' => e = .returned (tr (growV c s p m k n)) ∧ Below w.heap.size w w' := by
  have O := hidden (ow2 w c s p m k)
  have CH : Hid (∀ W, Calls Try.prog 26 #[.agg #[.int .i64 c, .int .i64 s, .int .i64 p, .int .i64 m, .int .i64 k], .int .i64 n, .func (.func 30) #[] #[]] W fun e w' => e = .returned (tr (growV c s p m k n)) ∧ Below W.heap.size W w') := fun W => changeGrow c s p m k n W
  generalize growV c s p m k n = x at CH ⊢
  obtain ⟨⟨x0, x1, x2, x3, x4⟩, x5⟩ := x
  unfold tr tv at *
  simp only at *
  go_enter Try.func10, Try.ntmps10
  go_wp2_with fail
  refine Calls.mono (CH.out _) ?_
  rintro e w1 ⟨rfl, hB1⟩
  have O1 := hidden (O.out.later hB1).below
  obtain ⟨⟨r0, r1, r2, r3, r4⟩, f0, f1, f2, f3, f4⟩ := ans (O.out.later hB1) (b := w.heap.size + 1) (.head _)
  clear hB1 O CH
  go_wp2
  refine bodyPost_ret (v := .tuple #[.agg #[.int .i64 x0, .int .i64 x1, .int .i64 x2, .int .i64 x3, .int .i64 x4], .int .i64 x5]) (by rw [results_cell_tmp rfl]; go_simp) rfl ⟨rfl, ?_⟩
  exact bel5 O1.out 1 _ _ _ _ _
set_option maxHeartbeats 1000000 in
theorem fastX (c s p m k : Int) (w : World) : Calls Try.prog 13 #[.agg #[.int .i64 c, .int .i64 s, .int .i64 p, .int .i64 m, .int .i64 k]] w fun e w' => e = .returned (tr (fastV c s p m k)) ∧ Below w.heap.size w w' := by
  have O := hidden (ow2 w c s p m k)
  have CH : Hid (∀ W, Calls Try.prog 26 #[.agg #[.int .i64 c, .int .i64 s, .int .i64 p, .int .i64 m, .int .i64 k], .int .i64 0, .func (.func 32) #[] #[]] W fun e w' => e = .returned (tr (fastV c s p m k)) ∧ Below W.heap.size W w') := fun W => changeFast c s p m k W
  generalize fastV c s p m k = x at CH ⊢
  obtain ⟨⟨x0, x1, x2, x3, x4⟩, x5⟩ := x
  unfold tr tv at *
  simp only at *
  go_enter Try.func13, Try.ntmps13
  go_wp2_with fail
  refine Calls.mono (CH.out _) ?_
  rintro e w1 ⟨rfl, hB1⟩
  have O1 := hidden (O.out.later hB1).below
  obtain ⟨⟨r0, r1, r2, r3, r4⟩, f0, f1, f2, f3, f4⟩ := ans (O.out.later hB1) (b := w.heap.size + 1) (.head _)
  clear hB1 O CH
  go_wp2
  refine bodyPost_ret (v := .tuple #[.agg #[.int .i64 x0, .int .i64 x1, .int .i64 x2, .int .i64 x3, .int .i64 x4], .int .i64 x5]) (by rw [results_cell_tmp rfl]; go_simp) rfl ⟨rfl, ?_⟩
  exact bel5 O1.out 1 _ _ _ _ _
set_option maxHeartbeats 1000000 in
theorem timeX (c s p m k : Int) (w : World) : Calls Try.prog 15 #[.agg #[.int .i64 c, .int .i64 s, .int .i64 p, .int .i64 m, .int .i64 k]] w fun e w' => e = .returned (tr (timeV c s p m k)) ∧ Below w.heap.size w w' := by
  have O := hidden (ow2 w c s p m k)
  have CH : Hid (∀ W, Calls Try.prog 26 #[.agg #[.int .i64 c, .int .i64 s, .int .i64 p, .int .i64 m, .int .i64 k], .int .i64 0, .func (.func 35) #[] #[]] W fun e w' => e = .returned (tr (timeV c s p m k)) ∧ Below W.heap.size W w') := fun W => changeTime c s p m k W
  generalize timeV c s p m k = x at CH ⊢
  obtain ⟨⟨x0, x1, x2, x3, x4⟩, x5⟩ := x
  unfold tr tv at *
  simp only at *
  go_enter Try.func15, Try.ntmps15
  go_wp2_with fail
  refine Calls.mono (CH.out _) ?_
  rintro e w1 ⟨rfl, hB1⟩
  have O1 := hidden (O.out.later hB1).below
  obtain ⟨⟨r0, r1, r2, r3, r4⟩, f0, f1, f2, f3, f4⟩ := ans (O.out.later hB1) (b := w.heap.size + 1) (.head _)
  clear hB1 O CH
  go_wp2
  refine bodyPost_ret (v := .tuple #[.agg #[.int .i64 x0, .int .i64 x1, .int .i64 x2, .int .i64 x3, .int .i64 x4], .int .i64 x5]) (by rw [results_cell_tmp rfl]; go_simp) rfl ⟨rfl, ?_⟩
  exact bel5 O1.out 1 _ _ _ _ _
set_option maxHeartbeats 1000000 in
theorem idleX (c s p m k : Int) (w : World) : Calls Try.prog 17 #[.agg #[.int .i64 c, .int .i64 s, .int .i64 p, .int .i64 m, .int .i64 k]] w fun e w' => e = .returned (tr (idleV c s p m k)) ∧ Below w.heap.size w w' := by
  have O := hidden (ow2 w c s p m k)
  have CH : Hid (∀ W, Calls Try.prog 26 #[.agg #[.int .i64 c, .int .i64 s, .int .i64 p, .int .i64 m, .int .i64 k], .int .i64 0, .func (.func 36) #[] #[]] W fun e w' => e = .returned (tr (idleV c s p m k)) ∧ Below W.heap.size W w') := fun W => changeIdle c s p m k W
  generalize idleV c s p m k = x at CH ⊢
  obtain ⟨⟨x0, x1, x2, x3, x4⟩, x5⟩ := x
  unfold tr tv at *
  simp only at *
  go_enter Try.func17, Try.ntmps17
  go_wp2_with fail
  refine Calls.mono (CH.out _) ?_
  rintro e w1 ⟨rfl, hB1⟩
  have O1 := hidden (O.out.later hB1).below
  obtain ⟨⟨r0, r1, r2, r3, r4⟩, f0, f1, f2, f3, f4⟩ := ans (O.out.later hB1) (b := w.heap.size + 1) (.head _)
  clear hB1 O CH
  go_wp2
  refine bodyPost_ret (v := .tuple #[.agg #[.int .i64 x0, .int .i64 x1, .int .i64 x2, .int .i64 x3, .int .i64 x4], .int .i64 x5]) (by rw [results_cell_tmp rfl]; go_simp) rfl ⟨rfl, ?_⟩
  exact bel5 O1.out 1 _ _ _ _ _
set_option maxHeartbeats 1000000 in
theorem ackX (c s p m k : Int) (n : Int) (f mv : Bool) (w : World) : Calls Try.prog 8 #[.agg #[.int .i64 c, .int .i64 s, .int .i64 p, .int .i64 m, .int .i64 k], .int .i64 n, .bool f, .bool mv] w fun e w' => e = .returned (tr (ackV c s p m k n f mv)) ∧ Below w.heap.size w w' := by
  have O := hidden (ow4 w c s p m k f mv)
  have CH : Hid (∀ W, Own w W [(w.heap.size + 3, #[.int .i64 0, .int .i64 0, .int .i64 0, .int .i64 0, .int .i64 0], 23), (w.heap.size + 2, #[.bool mv], 4), (w.heap.size + 1, #[.bool f], 4), (w.heap.size, #[.int .i64 c, .int .i64 s, .int .i64 p, .int .i64 m, .int .i64 k], 23)] → Calls Try.prog 26 #[.agg #[.int .i64 c, .int .i64 s, .int .i64 p, .int .i64 m, .int .i64 k], .int .i64 n, .func (.func 27) #[] #[.pointer (some ⟨w.heap.size + 2, 0, none⟩), .pointer (some ⟨w.heap.size + 1, 0, none⟩)]] W fun e w' => e = .returned (tr (ackV c s p m k n f mv)) ∧ Below W.heap.size W w') := fun W h => changeAck c s p m k n mv f (h.cell (.tail _ (.head _)) 0 rfl) (h.cell (.tail _ (.tail _ (.head _))) 0 rfl)
  generalize ackV c s p m k n f mv = x at CH ⊢
  obtain ⟨⟨x0, x1, x2, x3, x4⟩, x5⟩ := x
  unfold tr tv at *
  simp only at *
  go_enter Try.func8, Try.ntmps8
  go_wp2_with fail
  refine Calls.mono (CH.out _ O.out) ?_
  rintro e w1 ⟨rfl, hB1⟩
  have O1 := hidden (O.out.later hB1).below
  obtain ⟨⟨r0, r1, r2, r3, r4⟩, f0, f1, f2, f3, f4⟩ := ans (O.out.later hB1) (b := w.heap.size + 3) (.head _)
  clear hB1 O CH
  go_wp2
  refine bodyPost_ret (v := .tuple #[.agg #[.int .i64 x0, .int .i64 x1, .int .i64 x2, .int .i64 x3, .int .i64 x4], .int .i64 x5]) (by rw [results_cell_tmp rfl]; go_simp) rfl ⟨rfl, ?_⟩
  exact bel5 O1.out 3 _ _ _ _ _
end Go.Proofs.Ytaaghlgleofcgaa.Cw
