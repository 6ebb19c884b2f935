/-
  Windows of several paths: all of them together grow by at most one MTU.
  Conditions: as at each lemma.
-/
import Derived.Test.YtbcdoilfmfckiaaCoF
import Derived.Test.YtbcdoilfmfckiaaCoG
namespace Go.Proofs.Ytbcdoilfmfckiaa.Co
open Go.ChangeShapes Go.WideShapes Go.ChangeAt Go.RowKit
open Ba (hidden Has Only)
open Ow (Own)
set_option linter.unusedVariables false

theorem below_drewN {n : Nat} {w w1 : World} (h : Below n w w1) (k : Nat) : Below n w (w1.drewN k) := ⟨h.os, h.tape, h.output, h.size, h.block⟩
/-- by how much the first ones have grown -/
def inc (zs : List Fw) (ys : List Int) (m k : Int) : Nat → Int
  | 0 => 0
  | q + 1 => inc zs ys m k q + (wn zs q (ys.getD q 0) m k - (zs.getD q (0, 0)).1)
theorem wn_in {zs : List Fw} {ys : List Int} {m k : Int} (hg : ∀ z ∈ zs, good z) (hy : ∀ y ∈ ys, byt y) (hl : ys.length = zs.length) (hm : 0 ≤ m) {q : Nat} (hq : q < zs.length) {c t : Int} (hz : zs[q]? = some (c, t)) : c ≤ wn zs q (ys.getD q 0) m k ∧ wn zs q (ys.getD q 0) m k - c ≤ share zs q m := by
  have hyq : ys[q]? = some (ys.getD q 0) := by
    rw [List.getD_eq_getElem?_getD, List.getElem?_eq_getElem (by omega)]
    rfl
  have hyb := hy _ (List.mem_of_getElem? hyq)
  have h1 := gr_in hg hq hyb.1 hm
  rw [wn_at hz]
  omega
theorem inc_in {zs : List Fw} {ys : List Int} {m k : Int} (hg : ∀ z ∈ zs, good z) (hy : ∀ y ∈ ys, byt y) (hl : ys.length = zs.length) (hm : 0 ≤ m) (hS : 0 < sumT zs) : ∀ q : Nat, q ≤ zs.length → 0 ≤ inc zs ys m k q ∧ inc zs ys m k q * sumT zs ≤ m * sT zs q
  | 0, _ => by simp [inc, sT]
  | q + 1, h => by
    obtain ⟨h1, h2⟩ := inc_in (k := k) hg hy hl hm hS q (by omega)
    obtain ⟨c, t, hz⟩ := get_ (zs := zs) (q := q) (by omega)
    obtain ⟨h3, h4⟩ := wn_in (k := k) hg hy hl hm (by omega) hz
    rw [share_at hz] at h4
    have h5 := Int.ediv_mul_le (m * t) (b := sumT zs) (by omega)
    have h6 := Int.mul_le_mul_of_nonneg_right h4 (Int.le_of_lt hS)
    simp only [inc, getD_at hz]
    rw [sT_next hz, Int.add_mul, Int.mul_add]
    omega
theorem inc_one {zs : List Fw} {ys : List Int} {m k : Int} (hk : okF zs m) (hw : whF zs ys k) : inc zs ys m k zs.length ≤ m := by
  have hS : 0 < sumT zs := by
    have := (sT_in hk.2.2 zs.length (Nat.le_refl _)).1
    have := hk.1.1
    unfold sumT
    omega
  exact Int.le_of_mul_le_mul_right (inc_in hk.2.2 hw.2.2 hw.1 (by have := hk.2.1; omega) hS zs.length (Nat.le_refl _)).2 hS
theorem inc_up {zs : List Fw} {ys : List Int} {m k : Int} (hk : okF zs m) (hw : whF zs ys k) : ∀ q p : Nat, q + p ≤ zs.length → inc zs ys m k q ≤ inc zs ys m k (q + p)
  | q, 0, _ => Int.le_refl _
  | q, p + 1, h => by
    have := inc_up hk hw q p (by omega)
    obtain ⟨c, t, hz⟩ := get_ (zs := zs) (q := q + p) (by omega)
    obtain ⟨h3, h4⟩ := wn_in (k := k) hk.2.2 hw.2.2 hw.1 (m := m) (by have := hk.2.1; omega) (by omega) hz
    rw [show q + (p + 1) = q + p + 1 by omega]
    simp only [inc, getD_at hz]
    omega
theorem inc_all {zs : List Fw} {ys : List Int} {m k : Int} (hk : okF zs m) (hw : whF zs ys k) {q : Nat} (hq : q ≤ zs.length) : 0 ≤ inc zs ys m k q ∧ inc zs ys m k q ≤ m := by
  have h1 := inc_up hk hw q (zs.length - q) (by omega)
  have h2 := inc_up hk hw 0 q (by omega)
  rw [show q + (zs.length - q) = zs.length by omega] at h1
  rw [Nat.zero_add] at h2
  have := inc_one hk hw
  exact ⟨h2, by omega⟩
end Go.Proofs.Ytbcdoilfmfckiaa.Co
