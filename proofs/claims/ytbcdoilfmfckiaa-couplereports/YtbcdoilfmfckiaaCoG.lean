/-
  Windows of several paths: the two paths that the statements begin with.
  Conditions: none.
-/
import Derived.Test.YtbcdoilfmfckiaaCoC
namespace Go.Proofs.Ytbcdoilfmfckiaa.Co
open Go.ChangeShapes Go.WideShapes Go.ChangeAt Go.RowKit
open Ba (hidden Has Only)
open Ow (Own)
set_option linter.unusedVariables false

theorem two (w : World) : Fl (w.alloc (.cells #[.int .i64 20000, .int .i64 3000, .int .i64 10000, .int .i64 1000] 43)) (some ⟨w.heap.size, 0, none⟩) 2 [(20000, 3000), (10000, 1000)] := by
  have h := Has.new w #[.int .i64 20000, .int .i64 3000, .int .i64 10000, .int .i64 1000] 43
  refine ⟨rfl, by simp [Lit.wf, IntKind.min, IntKind.max, IntKind.signed, IntKind.bits], by decide, .inr ⟨w.heap.size, 0, rfl, by simp, fun j z hj c u hu => ?_⟩⟩
  match j, c with
  | 0, 0 => simp at hj; subst hj; simp at hu; subst hu; exact h.cell 0 rfl
  | 0, 1 => simp at hj; subst hj; simp at hu; subst hu; exact h.cell 1 rfl
  | 1, 0 => simp at hj; subst hj; simp at hu; subst hu; exact h.cell 2 rfl
  | 1, 1 => simp at hj; subst hj; simp at hu; subst hu; exact h.cell 3 rfl
  | 0, c + 2 => simp at hu
  | 1, c + 2 => simp at hu
  | j + 2, _ => simp at hj
theorem alive (w : World) : Calls Try.prog 13 #[] w fun e w' => e = .returned (.bool true) ∧ Below w.heap.size w w' := by
  have hB0 := (Below.refl _ w).alloc (Nat.le_refl _) (.cells #[.int .i64 20000, .int .i64 3000, .int .i64 10000, .int .i64 1000] 43)
  have S : Hid (∀ X, Below (w.alloc (.cells #[.int .i64 20000, .int .i64 3000, .int .i64 10000, .int .i64 1000] 43)).heap.size (w.alloc (.cells #[.int .i64 20000, .int .i64 3000, .int .i64 10000, .int .i64 1000] 43)) X → Calls Try.prog 9 #[.slice (some ⟨w.heap.size, 0, none⟩) 2 2, .int .i64 0, .int .i64 1500] X fun e w' => e = .returned (.tuple #[.int .i64 1125, .int .i64 0]) ∧ Below X.heap.size X w') := fun X hX => shareX (cap := 2) ((two w).later hX) 0 1500
  have C : Hid (∀ X, Below (w.alloc (.cells #[.int .i64 20000, .int .i64 3000, .int .i64 10000, .int .i64 1000] 43)).heap.size (w.alloc (.cells #[.int .i64 20000, .int .i64 3000, .int .i64 10000, .int .i64 1000] 43)) X → Calls Try.prog 18 #[.slice (some ⟨w.heap.size, 0, none⟩) 2 2, .int .i64 0, .int .i64 1500] X fun e w' => e = .returned (.tuple #[.int .i64 5000, .int .i64 0]) ∧ Below X.heap.size X w') := fun X hX => cutX (cap := 2) ((two w).later hX) 0 1500
  have HB0 := hidden hB0
  clear hB0
  go_enter Try.func13, Try.ntmps13
  go_wp2_with fail
  refine Calls.mono (S.out _ (Below.refl _ _)) ?_
  rintro e w1 ⟨rfl, hB⟩
  have HB1 := hidden hB
  clear hB
  go_wp2_with fail
  refine Calls.mono (C.out _ HB1.out) ?_
  rintro e w2 ⟨rfl, hB⟩
  have HB2 := hidden (HB1.out.trans (hB.mono HB1.out.size))
  clear hB HB1
  go_wp2
  go_ret
  exact ⟨rfl, HB0.out.trans (HB2.out.mono HB0.out.size)⟩
end Go.Proofs.Ytbcdoilfmfckiaa.Co
