/-
  What the document's Missing and Gaps do (package ropewalkref03).
  Conditions: the set's row rises, its numbers lie from 2 to 65535.
-/
import Derived.Test.YtdifceikfnnfeaaDoorSpRefB
namespace Go.Proofs.YtdifceikfnnfeaaDoor.Sp
open Go.RowKit Go.Shelf Go.ChangeShapes Go.WideShapes Go.ChangeAt
set_option linter.unusedVariables false

/-- where the next missing one may stand -/
def nextD (L : List Nat) (q : Nat) : Nat := if q = 0 then 1 else L.getD (q - 1) 0 + 1
theorem mm_pre : ∀ (L : List Nat) (b q : Nat), ∃ t, mm b L = mm b (L.take q) ++ t
  | [], b, q => ⟨[], by simp [mm]⟩
  | x :: xs, b, 0 => ⟨mm b (x :: xs), by simp [mm]⟩
  | x :: xs, b, q + 1 => by
    obtain ⟨t, ht⟩ := mm_pre xs (x + 1) q
    exact ⟨t, by rw [mm, ht, List.take_succ_cons, mm, List.append_assoc]⟩
/-- what has come by distance d is a beginning of all that is missing -/
theorem mm_part {L : List Nat} (hg : Good 2 L) {q : Nat} (hq : q < L.length) (d : Nat) (h1 : nextD L q ≤ d) (h2 : d ≤ L.getD q 0) : ∃ t, mm 1 L = (mm 1 (L.take q) ++ List.range' (nextD L q) (d - nextD L q)) ++ t := by
  obtain ⟨t, ht⟩ := mm_pre L 1 (q + 1)
  have hs := mm_take_snoc L 1 q hq hg.1 (fun x hx => by have := hg.2 x hx; omega)
  refine ⟨List.range' d (L.getD q 0 - d) ++ t, ?_⟩
  rw [ht, hs, List.append_assoc, List.append_assoc]
  congr 1
  rw [← List.append_assoc]
  congr 1
  show List.range' (nextD L q) (L.getD q 0 - nextD L q) = _
  rw [show L.getD q 0 - nextD L q = (d - nextD L q) + (L.getD q 0 - d) by omega, ← List.range'_append_1, show nextD L q + (d - nextD L q) = d by omega]
theorem nextD_le {L : List Nat} (hg : Good 2 L) {q : Nat} (hq : q < L.length) : nextD L q ≤ L.getD q 0 := by
  unfold nextD
  split
  · have := hg.2 _ (getD_mem L q hq); omega
  · have := (List.pairwise_iff_getElem.1 hg.1) (q - 1) q (by omega) hq (by omega)
    rw [List.getD_eq_getElem?_getD, List.getD_eq_getElem?_getD, List.getElem?_eq_getElem (by omega), List.getElem?_eq_getElem hq]
    exact this

/-- the first of the missing ones -/
def mtake (L : List Nat) (most : Int) : List Nat := (mm 1 L).take most.toNat

end Go.Proofs.YtdifceikfnnfeaaDoor.Sp
