/-
  Two measurements that are known.
  Conditions: none.
-/
import Derived.Test.YthfhcepfomghoaaRtE
namespace Go.Proofs.Ythfhcepfomghoaa.Rt
open Go.ChangeShapes Go.WideShapes Go.ChangeAt Go.RowKit
open Ba (hidden Has Only)
open Ow (Own)
set_option linter.unusedVariables false

/-- bounds in a block of one's own -/
theorem tim3 {w w1 : World} {L : List Ow.Bk} {b : Nat} {i mi ma : Int} (h : Own w w1 L) (hx : (b, #[.int .i64 i, .int .i64 mi, .int .i64 ma], 23) ∈ L) : (w1.cell? ⟨b, 0, none⟩ = some (.int .i64 i) ∧ w1.cell? ⟨b, 1, none⟩ = some (.int .i64 mi) ∧ w1.cell? ⟨b, 2, none⟩ = some (.int .i64 ma)) ∧ b < w1.heap.size :=
  ⟨⟨h.cell hx 0 rfl, h.cell hx 1 rfl, h.cell hx 2 rfl⟩, h.lt hx⟩
set_option maxHeartbeats 1000000 in
theorem awake (w : World) : Calls Try.prog 17 #[] w fun e w' => e = .returned (.bool true) ∧ Below w.heap.size w w' := by
  have S := hidden (startX 3000 1000 60000)
  have M1 := hidden (measureX 3000 1000 60000 false 0 0 3000 500)
  have M2 := hidden (measureX 3000 1000 60000 true 4000 1000 1500 580)
  rw [show tv (st 3000 1000 60000) = .tuple #[.agg #[.bool false, .int .i64 0, .int .i64 0, .int .i64 3000], .int .i64 0] by kernel_rfl] at S
  rw [show tv (ms 3000 1000 60000 false 0 0 3000 500) = .tuple #[.agg #[.bool true, .int .i64 4000, .int .i64 1000, .int .i64 1500], .int .i64 0] by kernel_rfl] at M1
  rw [show tv (ms 3000 1000 60000 true 4000 1000 1500 580) = .tuple #[.agg #[.bool true, .int .i64 4080, .int .i64 830, .int .i64 1340], .int .i64 0] by kernel_rfl] at M2
  have O := hidden ((Own.refl w).alloc #[.int .i64 3000, .int .i64 1000, .int .i64 60000] 23)
  go_enter Try.func17, Try.ntmps17
  go_wp2_with fail
  refine Calls.mono (S.out _) ?_
  rintro e w1 ⟨rfl, hB1⟩
  have P1 := hidden (O.out.later hB1)
  obtain ⟨⟨c0, c1, c2⟩, hl⟩ := tim3 P1.out (.head _)
  have O1 := hidden (P1.out.alloc #[.bool false, .int .i64 0, .int .i64 0, .int .i64 3000] 25)
  clear hB1 O S P1
  go_wp2_with fail
  refine Calls.mono (M1.out _) ?_
  rintro e w2 ⟨rfl, hB2⟩
  clear c0 c1 c2
  have P2 := hidden (O1.out.later hB2)
  obtain ⟨⟨c0, c1, c2⟩, hl2⟩ := tim3 P2.out (.tail _ (.head _))
  have O2 := hidden (P2.out.alloc #[.bool true, .int .i64 4000, .int .i64 1000, .int .i64 1500] 25)
  have hl3 := P2.out.lt (.head _)
  clear hB2 O1 P2
  go_wp2_with fail
  refine Calls.mono (M2.out _) ?_
  rintro e w3 ⟨rfl, hB3⟩
  clear c0 c1 c2
  have P3 := hidden (O2.out.later hB3)
  have B3 := hidden P3.out.below
  obtain ⟨⟨a0, a1, a2, a3⟩, _⟩ := ans P3.out (b := w1.heap.size) (.tail _ (.head _))
  obtain ⟨⟨b0, b1, b2, b3⟩, _⟩ := ans P3.out (b := w2.heap.size) (.head _)
  have hl4 := P3.out.lt (.head _)
  have hl5 := P3.out.lt (.tail _ (.head _))
  clear hB3 O2 P3
  go_wp2
  go_ret
  exact ⟨rfl, B3.out.alloc B3.out.size _⟩
end Go.Proofs.Ythfhcepfomghoaa.Rt
