/-
  Timeouts, for laws with loops: a state's block is set anew; what equal measurements come to.
  Conditions: as at each lemma.
-/
import Derived.Test.YthfhcepfomghoaaRtF
namespace Go.Proofs.Ythfhcepfomghoaa.Rt
open Go.ChangeShapes Go.WideShapes Go.ChangeAt Go.RowKit
open Ba (hidden Has Only)
open Ow (Own)
set_option linter.unusedVariables false

theorem set4 {w w1 : World} {L : List Ow.Bk} {b : Nat} {x0 x1 x2 x3 : Value} {T : TypeId} (h : Own w w1 ((b, #[x0, x1, x2, x3], T) :: L)) (hn : ∀ x ∈ L, x.1 ≠ b) (u0 u1 u2 u3 : Value) (cs : Array Value) (T' : TypeId) :
    Own w (((((w1.setCell ⟨b, 0, none⟩ u0).setCell ⟨b, 1, none⟩ u1).setCell ⟨b, 2, none⟩ u2).setCell ⟨b, 3, none⟩ u3).alloc (.cells cs T')) ((b, #[u0, u1, u2, u3], T) :: L) := by
  have h4 := (((h.set 0 u0 hn).set 1 u1 hn).set 2 u2 hn).set 3 u3 hn
  exact h4.later ((Below.refl _ _).alloc (Nat.le_refl _) _)
/-- how far a mean is off, at most, and how great a variation is, at most, behind so many equal measurements -/
def far : Nat → Int × Int
  | 0 => (8388608, 8388608)
  | q + 1 => ((far q).1 - ((far q).1 + 7) / 8, (far q).2 - (far q).2 / 4 + ((far q).1 + 7) / 8)
theorem far_end : far 399 = (0, 3) := by decide +kernel
theorem far_pos : ∀ q, 0 ≤ (far q).1 ∧ 0 ≤ (far q).2
  | 0 => by decide
  | q + 1 => by
    have h := far_pos q
    unfold far
    simp only
    omega
/-- a state behind q + 1 equal measurements -/
def Near (n : Int) (q : Nat) (s v : Int) : Prop := (8 * n - s ≤ (far q).1 ∧ s - 8 * n - 7 ≤ (far q).1) ∧ v ≤ (far q).2
theorem near_first {n s v : Int} (hs : 0 ≤ s ∧ s ≤ 8388608) (hv : v ≤ 8388608) (hn : 0 ≤ n ∧ n ≤ 1048576) : Near n 0 s v := by
  unfold Near far
  simp only
  omega
theorem near_next {n : Int} {q : Nat} {s v : Int} (h : Near n q s v) (hs : 0 ≤ s) (hv : 0 ≤ v) : Near n (q + 1) (smI true s n) (vaI true s v n) := by
  have hp := far_pos q
  unfold Near at h ⊢
  unfold far smI vaI tripI absI
  simp only [cond_true]
  rw [show max s 0 = s by omega]
  generalize (far q).1 = D at h hp ⊢
  generalize (far q).2 = G at h hp ⊢
  refine ⟨⟨?_, ?_⟩, ?_⟩ <;> omega
theorem near_last {n s v : Int} (h : Near n 399 s v) (hs : 0 ≤ s) (hn : 0 ≤ n) : tripI s = n ∧ v ≤ 3 := by
  unfold Near at h
  rw [far_end] at h
  simp only at h
  unfold tripI
  omega
end Go.Proofs.Ythfhcepfomghoaa.Rt
