/-
  What is missing between cum and the last distance: mathematics alone.
  Conditions: the distances rise.
-/
import Derived.Test.YtdifceikfnnfeaaDoorSpTop
namespace Go.Proofs.YtdifceikfnnfeaaDoor.Sp
set_option linter.unusedVariables false

/-- what is missing from b on -/
def mm : Nat → List Nat → List Nat
  | _, [] => []
  | b, x :: xs => List.range' b (x - b) ++ mm (x + 1) xs
theorem miss_blk : ∀ (L : List Nat) (b : Nat), miss b (blk L) = mm b L
  | [], b => rfl
  | x :: xs, b => by
    have ih := miss_blk xs
    rw [blk, mm]
    cases hb : blk xs with
    | nil =>
      cases xs with
      | nil => simp [miss, mm]
      | cons y ys => rw [blk_cons] at hb; cases hb
    | cons a r =>
      obtain ⟨s, e⟩ := a
      simp only
      split
      · rename_i hs
        have h1 := ih (x + 1)
        rw [hb, miss, hs, Nat.sub_self] at h1
        rw [miss, ← h1]
        simp
      · have h1 := ih (x + 1)
        rw [hb] at h1
        rw [miss, ← h1]
theorem lastD_cons (x : Nat) (xs : List Nat) : lastD (x :: xs) = if xs = [] then x else lastD xs := by
  cases xs with
  | nil => rfl
  | cons y ys => simp [lastD]
theorem mm_facts : ∀ (L : List Nat) (b : Nat), Up L → (∀ x ∈ L, b ≤ x) → Up (mm b L) ∧ (∀ y ∈ mm b L, b ≤ y ∧ y < lastD L ∧ y ∉ L) ∧ (L ≠ [] → L.length + (mm b L).length + b = lastD L + 1 ∧ b ≤ lastD L)
  | [], b, _, _ => by simp [mm, Up]
  | x :: xs, b, hU, hb => by
    obtain ⟨h1, h2⟩ := List.pairwise_cons.1 hU
    have hx := hb x (by simp)
    obtain ⟨i1, i2, i3⟩ := mm_facts xs (x + 1) h2 (fun y hy => h1 y hy)
    have hl : x ≤ lastD (x :: xs) := by
      rw [lastD_cons]; split
      · omega
      · rename_i hne; have := (i3 hne).2; omega
    rw [mm]
    refine ⟨List.pairwise_append.2 ⟨List.pairwise_lt_range', i1, fun y hy z hz => ?_⟩, fun y hy => ?_, fun _ => ?_⟩
    · rw [List.mem_range'_1] at hy; have := (i2 z hz).1; omega
    · rcases List.mem_append.1 hy with hy | hy
      · rw [List.mem_range'_1] at hy
        refine ⟨by omega, by omega, fun hm => ?_⟩
        rcases List.mem_cons.1 hm with e | hm
        · omega
        · have := h1 y hm; omega
      · have := i2 y hy
        have hne : xs ≠ [] := by rintro rfl; simp [mm] at hy
        rw [lastD_cons, if_neg hne]
        refine ⟨by omega, this.2.1, fun hm => ?_⟩
        rcases List.mem_cons.1 hm with e | hm
        · omega
        · exact this.2.2 hm
    · rw [List.length_append, List.length_range', List.length_cons]
      by_cases hne : xs = []
      · subst hne; simp [mm, lastD]; omega
      · have := i3 hne
        rw [lastD_cons, if_neg hne]
        omega
/-- of a set: the missing ones, and how many -/
theorem miss_set {L : List Nat} (h : Good 2 L) : Up (mm 1 L) ∧ (∀ y ∈ mm 1 L, 1 ≤ y ∧ y < lastD L ∧ y ∉ L) ∧ L.length + (mm 1 L).length = lastD L ∧ lastD L ≤ 65535 := by
  obtain ⟨h1, h2, h3⟩ := mm_facts L 1 h.1 (fun x hx => by have := h.2 x hx; omega)
  refine ⟨h1, h2, ?_, ?_⟩
  · by_cases hne : L = []
    · subst hne; rfl
    · have := h3 hne; omega
  · unfold lastD
    cases hl : L.getLast? with
    | none => simp
    | some x => have := h.2 x (List.mem_of_getLast? hl); simp; omega
open Go.RowKit in
theorem IsSet.ofHeap {w w' : World} {b c : Nat} {L : List Nat} (h : IsSet w b c L) (hh : w'.heap = w.heap) : IsSet w' b c L := by
  obtain ⟨h1, h2, R, h3, h4⟩ := h
  exact ⟨h1, h2, R, h3.of_block (by rw [hh]), h4⟩
end Go.Proofs.YtdifceikfnnfeaaDoor.Sp
