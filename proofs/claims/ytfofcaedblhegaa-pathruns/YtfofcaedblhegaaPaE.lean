/-
  Paths: the law's own blocks; errors in a row.
  Conditions: as at each lemma.
-/
import Derived.Test.YtfofcaedblhegaaPaD
namespace Go.Proofs.Ytfofcaedblhegaa.Pa
open Go.ChangeShapes Go.WideShapes Go.ChangeAt Go.RowKit
open Ba (hidden Has Only)
open Ow (Own)
set_option linter.unusedVariables false

theorem own_join {w w1 w2 : World} {L M : List Ow.Bk} (h : Own w w1 L) (h2 : Own w1 w2 M) : Own w w2 (M ++ L) := by
  have h3 := h.later h2.below
  refine ⟨h3.1, fun x hx => ?_⟩
  rcases List.mem_append.1 hx with hx | hx
  · exact ⟨Nat.le_trans h.1.size (h2.2 x hx).1, (h2.2 x hx).2⟩
  · exact h3.2 x hx
/-- the code's path and the care that came in -/
abbrev LC (w : World) (b : Nat) (s : S) (mx fl pa : Int) : List Ow.Bk := [(b, cp s, 56), (w.heap.size, #[.int .i64 mx, .int .i64 fl, .int .i64 pa], 23)]
section
variable {w w1 w2 : World} {b : Nat} {s s' : S} {mx fl pa : Int}
theorem lc_has (h : Own w w1 (LC w b s mx fl pa)) : Cd w1 b s := h.has (.head _)
theorem lc_cells (h : Own w w1 (LC w b s mx fl pa)) : (w1.cell? ⟨w.heap.size, 0, none⟩ = some (.int .i64 mx) ∧ w1.cell? ⟨w.heap.size, 1, none⟩ = some (.int .i64 fl) ∧ w1.cell? ⟨w.heap.size, 2, none⟩ = some (.int .i64 pa)) ∧ w.heap.size < w1.heap.size :=
  ⟨⟨h.cell (.tail _ (.head _)) 0 rfl, h.cell (.tail _ (.head _)) 1 rfl, h.cell (.tail _ (.head _)) 2 rfl⟩, h.lt (.tail _ (.head _))⟩
theorem lc_turn (h : Own w w1 (LC w b s mx fl pa)) (hc : Cd w2 b s') (ho : Only [b] w1 w2) : Own w w2 (LC w b s' mx fl pa) := by
  refine h.turn ho hc fun x hx => ?_
  have h1 := h.has (.head _)
  have h2 := h.has (.tail _ (.head _))
  simp only [List.mem_cons, List.not_mem_nil, or_false] at hx
  subst hx
  exact Has.ne h2 h1 (by decide)
end
/-- behind q errors in a row -/
def rowS (s : S) (q : Int) : S := setE s (min q (s.mx + 1))
theorem row_next {s : S} {q : Int} (hq : 0 ≤ q) : failS (rowS s q) = rowS s (q + 1) := by
  unfold failS rowS setE
  simp only
  rw [show min (min q (s.mx + 1)) s.mx + 1 = min (q + 1) (s.mx + 1) by omega]
theorem row_inv {s : S} (h : Inv s) {q : Int} (hq : 0 ≤ q) : Inv (rowS s q) := ⟨by have := h.er; have := h.fl; simp only [rowS, setE]; omega, h.fl, h.mx, h.nu, h.bg, h.pa, h.us⟩
theorem row_zero {s : S} (h : Inv s) (h0 : s.er = 0) : rowS s 0 = s := by
  have := h.fl
  unfold rowS setE
  rw [show min 0 (s.mx + 1) = s.er by omega]
theorem row_state {s : S} (h : Inv s) {q : Int} : stI (rowS s q) = if s.mx < q then 3 else if s.fl < q then 2 else 1 := by
  have := h.fl
  unfold stI rowS setE
  simp only
  by_cases h1 : s.mx < q
  · rw [if_pos h1, if_pos (by omega)]
  · rw [if_neg h1, if_neg (by omega)]
    by_cases h2 : s.fl < q
    · rw [if_pos h2, if_pos (by omega)]
    · rw [if_neg h2, if_neg (by omega)]
theorem good_state {s : S} (h : Inv s) : stI (goodS s) = 1 := by
  have := h.fl
  unfold stI goodS setE
  simp only
  rw [if_neg (by omega), if_neg (by omega)]
theorem good_chg {s : S} (h : Inv s) : chg s (goodS s) = !(decide (stI s = 1)) := by
  unfold chg
  rw [good_state h]
  congr 1
  rw [Bool.eq_iff_iff]
  simp only [decide_eq_true_eq]
  exact eq_comm
theorem newE_no {mx fl pa n : Int} (h : (okC mx fl pa && tok n) = false) : ¬ newE mx fl pa n = 0 := by
  unfold newE
  revert h
  cases okC mx fl pa <;> cases tok n <;> decide
end Go.Proofs.Ytfofcaedblhegaa.Pa
