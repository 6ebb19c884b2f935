/-
  Shares of a send buffer: a copy of what came in.
  Conditions: as at each lemma.
-/
import Derived.Test.YtbnmcjajhcgcnaaShF
namespace Go.Proofs.Ytbnmcjajhcgcnaa.Sh
open Go.ChangeShapes Go.WideShapes Go.ChangeAt Go.RowKit
open Ba (hidden Has Only)
open Ow (Own)
set_option linter.unusedVariables false

theorem copy_any {w : World} {a : Option Addr} {n cap : Nat} {ys : List Int} (h : Nu w a n ys) (ha : a = none → n = 0 ∧ cap = 0) (hn : n * 8 ≤ 140737488355328) :
    ∃ v' w', (Builtin.append_ #[24, 24] 24 #[.slice (some ⟨w.heap.size, 0, none⟩) 0 0, .slice a n cap]).run Try.prog (w.alloc (.cells #[] 3)) = .ok v' w' ∧ w'.ownsRow w.heap.size 3 1 v' n (lc ys) ∧ Below w.heap.size w w' := by
  obtain ⟨i0, hi, hz0, hz1, hz2⟩ := info_parts infoI
  have hb := (Below.refl _ w).alloc (Nat.le_refl _) (.cells #[] 3)
  have hown : (w.alloc (.cells #[] 3)).ownsRow w.heap.size 3 1 (.slice (some ⟨w.heap.size, 0, none⟩) 0 0) 0 [] := World.ownsRow_lit w #[] 0 (Nat.le_refl _) (Nat.zero_le _) rfl
  have hl : (lc ys).length = n * 1 := by rw [lc_len, h.len, Nat.mul_one]
  cases a with
  | none =>
    obtain ⟨rfl, rfl⟩ := ha rfl
    have hy : ys = [] := List.length_eq_zero_iff.1 h.len
    subst hy
    exact ⟨_, _, run_append_owned_none (P := Try.prog) _ w.heap.size 24 24 3 i0 1 Try.underlying24 hi _ 0 [] hown, hown, hb⟩
  | some ad =>
    have hnews : ∀ j u, (lc ys)[j]? = some u → (w.alloc (.cells #[] 3)).cell? (ad.add j) = some u := by
      rcases Nat.eq_zero_or_pos n with h0 | h0
      · have hy : ys = [] := List.length_eq_zero_iff.1 (h.len.trans h0)
        subst hy
        intro j u hj
        simp [lc] at hj
      · obtain ⟨b, off, e, _⟩ := Nu.open h h0
        cases e
        exact Nu.news (h.later hb)
    obtain ⟨v', w', hr, h1, h2, _⟩ := run_append_own (P := Try.prog) _ w.heap.size 24 24 3 i0 _ 1 8 Try.underlying24 hi hz0 hz1 hz2 rfl (by decide) _ 0 [] hown ad n cap (lc ys) hl hnews (lc_one _) (by unfold maxLen; omega) (by omega) (by simp)
    simp only [Nat.zero_add, List.nil_append] at h1
    exact ⟨v', w', hr, h1, hb.grown h2 (by simp) (fun q hq => by cases hq; exact Nat.le_refl _)⟩
end Go.Proofs.Ytbnmcjajhcgcnaa.Sh
