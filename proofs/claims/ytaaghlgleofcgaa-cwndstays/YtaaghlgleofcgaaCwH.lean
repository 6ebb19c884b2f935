/-
  Windows: what is made of one that may be, may be.
  Conditions: as at each lemma.
-/
import Derived.Test.YtaaghlgleofcgaaCwG
namespace Go.Proofs.Ytaaghlgleofcgaa.Cw
open Go.ChangeShapes Go.WideShapes Go.ChangeAt Go.RowKit
open Ba (hidden Has Only)
open Ow (Own)
set_option linter.unusedVariables false

theorem opV_may {m k pe : Int} (h : bndP m k) : mayP (4 * m) (min (max pe (4 * m)) 1073741824) 0 m k := by
  obtain ⟨h1, h2⟩ := h
  exact ⟨⟨h1, h2⟩, by omega, by omega, by omega⟩
section
variable {c s p m k n : Int}
theorem ack_ok (h : mayP c s p m k) (hn : 0 ≤ n ∧ n ≤ 1073741824) (f mv : Bool) : ∃ c' p', ackV c s p m k n f mv = ((c', s, p', m, k), 0) ∧ mayP c' s p' m k ∧ c ≤ c' ∧ c' ≤ c + m := by
  obtain ⟨⟨h1, h2⟩, h3, h4, h5⟩ := id h
  cases mv
  · exact ⟨c, p, by unfold ackV ask; rw [if_pos h, if_pos hn]; rfl, h, by omega, by omega⟩
  · refine ⟨akC c s p m k n f, akP c s p m k n f, by unfold ackV ask; rw [if_pos h, if_pos hn]; rfl, ?_⟩
    unfold akC akP
    by_cases hs : c ≤ s
    · rw [if_pos hs, if_pos hs]
      cases f
      · exact ⟨h, by simp, by simp; omega⟩
      · simp only [cond_true]
        refine ⟨⟨⟨h1, h2⟩, ?_, h4, ?_⟩, ?_, ?_⟩ <;> omega
    · rw [if_neg hs, if_neg hs]
      by_cases hq : p + n < c
      · rw [if_pos hq, if_pos hq]
        refine ⟨⟨⟨h1, h2⟩, ?_, h4, ?_⟩, ?_, ?_⟩ <;> omega
      · rw [if_neg hq, if_neg hq]
        cases f
        · simp only [cond_false]
          refine ⟨⟨⟨h1, h2⟩, ?_, h4, ?_⟩, ?_, ?_⟩ <;> omega
        · simp only [cond_true]
          refine ⟨⟨⟨h1, h2⟩, ?_, h4, ?_⟩, ?_, ?_⟩ <;> omega
theorem grow_ok (h : mayP c s p m k) (hn : 0 ≤ n ∧ n ≤ 1073741824) : ∃ c', growV c s p m k n = ((c', s, p, m, k), 0) ∧ mayP c' s p m k := by
  obtain ⟨⟨h1, h2⟩, h3, h4, h5⟩ := id h
  refine ⟨min (c + n) k, by unfold growV ask; rw [if_pos h, if_pos hn], ?_⟩
  refine ⟨⟨h1, h2⟩, ?_, h4, ?_⟩ <;> omega
theorem fast_ok (h : mayP c s p m k) : ∃ c' s', fastV c s p m k = ((c', s', 0, m, k), 0) ∧ mayP c' s' 0 m k ∧ c' ≤ max c (4 * m) := by
  obtain ⟨⟨h1, h2⟩, h3, h4, h5⟩ := id h
  refine ⟨min (max (c / 2) (4 * m)) k, max (c / 2) (4 * m), by unfold fastV ask; rw [if_pos h, if_pos (by decide)], ?_⟩
  refine ⟨⟨⟨h1, h2⟩, ?_, ?_, ?_⟩, ?_⟩ <;> omega
theorem time_ok (h : mayP c s p m k) : ∃ s', timeV c s p m k = ((m, s', 0, m, k), 0) ∧ mayP m s' 0 m k := by
  obtain ⟨⟨h1, h2⟩, h3, h4, h5⟩ := id h
  refine ⟨max (c / 2) (4 * m), by unfold timeV ask; rw [if_pos h, if_pos (by decide)], ?_⟩
  refine ⟨⟨h1, h2⟩, ?_, ?_, ?_⟩ <;> omega
theorem idle_ok (h : mayP c s p m k) : ∃ c', idleV c s p m k = ((c', s, 0, m, k), 0) ∧ mayP c' s 0 m k ∧ c' ≤ c := by
  obtain ⟨⟨h1, h2⟩, h3, h4, h5⟩ := id h
  refine ⟨min (max (c / 2) (4 * m)) c, by unfold idleV ask; rw [if_pos h, if_pos (by decide)], ?_⟩
  refine ⟨⟨⟨h1, h2⟩, ?_, h4, ?_⟩, ?_⟩ <;> omega
end
/-- a packet in slow start -/
theorem ack_slow {C S m : Int} (hm : 100 ≤ m ∧ m ≤ 1500) (h1 : m ≤ C) (h2 : C ≤ S) (h3 : C + m ≤ 1073741824) (h4 : 4 * m ≤ S ∧ S ≤ 1073741824) : ackV C S 0 m 1073741824 m true true = ((C + m, S, 0, m, 1073741824), 0) := by
  unfold ackV ask
  rw [if_pos ⟨⟨hm, by omega⟩, by omega, h4, by omega⟩, if_pos (by omega)]
  have e1 : akC C S 0 m 1073741824 m true = C + m := by
    unfold akC
    rw [if_pos h2]
    simp only [cond_true]
    omega
  have e2 : akP C S 0 m 1073741824 m true = 0 := by
    unfold akP
    rw [if_pos h2]
  rw [e1, e2]
  rfl
/-- a window's block is set anew -/
theorem set5 {w w1 : World} {L : List Ow.Bk} {b : Nat} {x0 x1 x2 x3 x4 : Value} {T : TypeId} (h : Own w w1 ((b, #[x0, x1, x2, x3, x4], T) :: L)) (hn : ∀ x ∈ L, x.1 ≠ b) (u0 u1 u2 u3 u4 : Value) :
    Own w (((((w1.setCell ⟨b, 0, none⟩ u0).setCell ⟨b, 1, none⟩ u1).setCell ⟨b, 2, none⟩ u2).setCell ⟨b, 3, none⟩ u3).setCell ⟨b, 4, none⟩ u4) ((b, #[u0, u1, u2, u3, u4], T) :: L) :=
  ((((h.set 0 u0 hn).set 1 u1 hn).set 2 u2 hn).set 3 u3 hn).set 4 u4 hn
/-- packets of so many bytes -/
theorem prod {a b : Int} (ha : 1 ≤ a ∧ a ≤ 200) (hb : 100 ≤ b ∧ b ≤ 1500) : b ≤ a * b ∧ a * b ≤ 300000 ∧ 2 * a * b = 2 * (a * b) := by
  have h1 : 1 * b ≤ a * b := Int.mul_le_mul_of_nonneg_right ha.1 (by omega)
  have h2 : a * b ≤ 200 * b := Int.mul_le_mul_of_nonneg_right ha.2 (by omega)
  refine ⟨by omega, by omega, Int.mul_assoc 2 a b⟩
theorem more {a b q : Int} (hb : 100 ≤ b ∧ b ≤ 1500) (h0 : 0 ≤ q) (hq : q < a) : a * b ≤ (a + q) * b ∧ (a + q) * b + b ≤ 2 * (a * b) ∧ (a + (q + 1)) * b = (a + q) * b + b := by
  have h1 : a * b ≤ (a + q) * b := Int.mul_le_mul_of_nonneg_right (by omega) (by omega)
  have h2 : (a + q + 1) * b ≤ (a + a) * b := Int.mul_le_mul_of_nonneg_right (by omega) (by omega)
  have e1 : (a + q + 1) * b = (a + q) * b + b := by rw [Int.add_mul, Int.one_mul]
  have e2 : (a + a) * b = a * b + a * b := Int.add_mul a a b
  refine ⟨h1, by omega, ?_⟩
  rw [show a + (q + 1) = a + q + 1 by omega, e1]
end Go.Proofs.Ytaaghlgleofcgaa.Cw
