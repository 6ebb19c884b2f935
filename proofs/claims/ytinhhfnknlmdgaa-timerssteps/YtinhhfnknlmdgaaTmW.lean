/-
  Three timers that are known.
  Conditions: none.
-/
import Derived.Test.YtinhhfnknlmdgaaTmO
namespace Go.Proofs.Ytinhhfnknlmdgaa.Tm
open Go.RowKit Go.Sort Go.ChangeShapes Go.WideShapes Go.ChangeAt
open Ba (hidden Only In Has own_ne own_stay own_len own_some own_mono cell_lt heap_lt)
set_option linter.unusedVariables false

theorem six_cells (w : World) (b : Nat) (h : Has w b #[.int .i64 2, .int .i64 40, .int .i64 1, .int .i64 50, .int .i64 3, .int .i64 50] 43) : Rw w (.slice (some ⟨b, 0, none⟩) 3 3) [(2, 40), (1, 50), (3, 50)] := by
  refine ⟨by decide, some ⟨b, 0, none⟩, 3, rfl, .inr ⟨b, 0, rfl, h.lt, fun j hj => ?_⟩⟩
  match j, hj with
  | 0, _ => exact ⟨h.cell 0 rfl, h.cell 1 rfl⟩
  | 1, _ => exact ⟨h.cell 2 rfl, h.cell 3 rfl⟩
  | 2, _ => exact ⟨h.cell 4 rfl, h.cell 5 rfl⟩
  | j + 3, hj => exact absurd hj (by simp)
set_option maxHeartbeats 1000000 in
theorem awake (w : World) : Calls Try.prog 8 #[] w fun e w' => e = .returned (.bool true) ∧ Below w.heap.size w w' := by
  have N := hidden (new w)
  go_enter Try.func8, Try.ntmps8
  go_wp2_with fail
  refine Calls.mono N.out ?_
  rintro e w1 ⟨t, F, rfl, h1, hF, hB1⟩
  have S1 := hidden (tset h1 3 50)
  rw [show setE 3 50 = 0 by decide, show setS 3 50 [] = [(3, 50)] by decide] at S1
  have HF := hidden hF
  have HB1 := hidden hB1
  clear h1 hF hB1 N
  go_wp2_with fail
  refine Calls.mono S1.out ?_
  rintro e w2 ⟨rfl, F2, h2, o2, n2⟩
  have S2 := hidden (tset h2 1 50)
  rw [show setE 1 50 = 0 by decide, show setS 1 50 [(3, 50)] = [(1, 50), (3, 50)] by decide] at S2
  have O2 := hidden o2
  have N2 := hidden n2
  clear h2 o2 n2 S1
  go_wp2_with fail
  refine Calls.mono S2.out ?_
  rintro e w3 ⟨rfl, F3, h3, o3, n3⟩
  have S3 := hidden (tset h3 2 40)
  rw [show setE 2 40 = 0 by decide, show setS 2 40 [(1, 50), (3, 50)] = [(2, 40), (1, 50), (3, 50)] by decide] at S3
  have O3 := hidden o3
  have N3 := hidden n3
  clear h3 o3 n3 S2
  go_wp2_with fail
  refine Calls.mono S3.out ?_
  rintro e w4 ⟨rfl, F4, h4, o4, n4⟩
  have S4 := hidden (tdue h4 50)
  have O4 := hidden o4
  have N4 := hidden n4
  clear h4 o4 n4 S3
  go_wp2_with fail
  refine Calls.mono S4.out ?_
  rintro e w5 ⟨tv, T, rfl, hr, F5, hnf, hor, o5, n5⟩
  obtain ⟨_, hT, _⟩ := hor.resolve_left (fun hh => absurd hh.1 (by decide))
  rw [show told 50 [(2, 40), (1, 50), (3, 50)] = [(2, 40), (1, 50), (3, 50)] by decide] at hT
  subst hT
  rw [show dueE 50 0 = 0 by decide]
  have o : Only F w1 w5 := (((O2.out.trans O3.out N2.out).trans O4.out (N2.out.trans N3.out O2.out.size)).trans o5 ((N2.out.trans N3.out O2.out.size).trans N4.out (O2.out.trans O3.out N2.out).size))
  have hB : Below w.heap.size w w5 := HB1.out.trans (o.below (n := w.heap.size) HB1.out.size HF.out)
  have HR := hidden hr
  have HB := hidden hB
  have SA : Hid (∀ W, Below w5.heap.size w5 W → Has W w5.heap.size #[.int .i64 2, .int .i64 40, .int .i64 1, .int .i64 50, .int .i64 3, .int .i64 50] 43 → Calls Try.prog 16 #[tv, .slice (some ⟨w5.heap.size, 0, none⟩) 3 3] W fun e w' => e = .returned (.bool true) ∧ Below W.heap.size W w') := fun W hW hH =>
    rsame W _ _ _ (((Own.rw (own_mono HR.out (fun k _ => Nat.zero_le _)) (by decide))).later hW) (six_cells W _ hH)
  clear hr hnf hor o5 n5 o hB S4
  go_wp2_with fail
  refine Calls.mono (SA.out _ ((Below.refl _ w5).alloc (Nat.le_refl _) _) (Has.new w5 _ _)) ?_
  rintro e w6 ⟨rfl, hB6⟩
  have HB6 := hidden hB6
  clear hB6
  go_wp2
  go_ret
  exact ⟨rfl, (HB.out.alloc HB.out.size _).trans (HB6.out.mono (by simp; have := HB.out.size; omega))⟩
end Go.Proofs.Ytinhhfnknlmdgaa.Tm
