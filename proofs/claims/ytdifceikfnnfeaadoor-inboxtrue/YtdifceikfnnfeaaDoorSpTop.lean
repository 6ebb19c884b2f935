/-
  What a set's blocks are to its distances; what the law's own functions do with sets (alive).
  Conditions: the table of math/bits holds its numbers.
-/
import Derived.Test.YtdifceikfnnfeaaDoorSpGaps
namespace Go.Proofs.YtdifceikfnnfeaaDoor.Sp
open Go.RowKit Go.Shelf Go.ChangeShapes Go.WideShapes Go.ChangeAt
set_option linter.unusedVariables false

theorem blk_good : ∀ (L : List Nat) (lo : Nat), Good lo L → ∀ g ∈ blk L, lo ≤ g.1 ∧ g.1 ≤ g.2 ∧ g.2 ≤ 65535
  | [], _, _ => by simp [blk]
  | x :: xs, lo, h => by
    obtain ⟨h1, h2, h3⟩ := good_cons h
    have ih := blk_good xs (x + 1) h1
    intro g hg
    rw [blk] at hg
    cases hb : blk xs with
    | nil => rw [hb] at hg; simp at hg; subst hg; simp; omega
    | cons a r =>
      obtain ⟨s, e⟩ := a
      rw [hb] at hg ih
      have ha := ih (s, e) (by simp)
      simp only at hg ha
      split at hg
      · rcases List.mem_cons.1 hg with rfl | hg
        · simp; omega
        · have := ih g (by simp [hg]); omega
      · rcases List.mem_cons.1 hg with rfl | hg
        · simp; omega
        · have := ih g hg; omega
theorem blk_len : ∀ (L : List Nat), (blk L).length ≤ L.length
  | [] => by simp [blk]
  | x :: xs => by
    have ih := blk_len xs
    rw [blk]
    cases hb : blk xs with
    | nil => simp
    | cons a r => rw [hb] at ih; simp at ih; obtain ⟨s, e⟩ := a; simp only; split <;> simp <;> omega
theorem blk_le : ∀ (L : List Nat), ∀ g ∈ blk L, g.1 ≤ g.2
  | [] => by simp [blk]
  | x :: xs => by
    have ih := blk_le xs
    intro g hg
    rw [blk] at hg
    cases hb : blk xs with
    | nil => rw [hb] at hg; simp at hg; subst hg; simp
    | cons a r =>
      obtain ⟨s, e⟩ := a
      rw [hb] at hg ih
      have ha := ih (s, e) (by simp)
      simp only at hg ha
      split at hg
      · rcases List.mem_cons.1 hg with rfl | hg
        · simp; omega
        · exact ih g (by simp [hg])
      · rcases List.mem_cons.1 hg with rfl | hg
        · simp
        · exact ih g hg
theorem expand_blk : ∀ (L : List Nat), expand (blk L) = L
  | [] => by simp [blk, expand]
  | x :: xs => by
    have ih := expand_blk xs
    rw [blk]
    cases hb : blk xs with
    | nil => rw [hb] at ih; simp [expand] at ih ⊢; exact ih
    | cons a r =>
      obtain ⟨s, e⟩ := a
      rw [hb] at ih
      simp only
      split
      · rename_i hs
        subst hs
        rw [← ih]
        simp only [expand, List.flatMap_cons]
        have he : x + 1 ≤ e ∨ e < x + 1 := by omega
        rcases he with he | he
        · rw [show e + 1 - x = (e + 1 - (x + 1)) + 1 by omega, List.range'_succ, List.cons_append]
        · have := blk_le xs (x + 1, e) (by rw [hb]; simp)
          simp at this; omega
      · rw [← ih]
        simp only [expand, List.flatMap_cons]
        rw [show x + 1 - x = 1 by omega]
        simp
/-- the last distance; 0: there is none -/
def lastD (L : List Nat) : Nat := L.getLast?.getD 0
theorem last_blk : ∀ (L : List Nat), lastOf (blk L) = lastD L
  | [] => rfl
  | x :: xs => by
    have ih := last_blk xs
    rw [blk]
    cases hb : blk xs with
    | nil =>
      cases xs with
      | nil => rfl
      | cons y ys => rw [blk_cons] at hb; cases hb
    | cons a r =>
      obtain ⟨s, e⟩ := a
      rw [hb] at ih
      cases xs with
      | nil => simp [blk] at hb
      | cons y ys =>
        have h1 : lastD (x :: y :: ys) = lastD (y :: ys) := by simp [lastD]
        rw [h1, ← ih]
        simp only
        split
        · cases r <;> simp [lastOf]
        · simp [lastOf]
theorem blocks_set {L : List Nat} (h : Good 2 L) : Blocks (blk L) := ⟨Nat.le_trans (blk_len L) (good_len h), blk_good L 2 h⟩

theorem behind_set {w : World} {b c : Nat} {L : List Nat} (h : IsSet w b c L) (hT : Tab w) : Behind w (some ⟨b, 0, none⟩) c (blk L) := by
  refine ⟨hands_set h h.lt hT, blocks_set h.2.1, fun _ => ?_⟩
  obtain ⟨h1, h2, R, h3, h4⟩ := h
  exact ⟨b, R, _, _, rfl, h3, h1⟩

theorem allS {w : World} {b c : Nat} {L : List Nat} (h : IsSet w b c L) (hT : Tab w) :
    Calls Tryd.prog 46 #[.pointer (some ⟨b, 0, none⟩)] w fun e w' => ∃ v, e = .returned v ∧ w'.ownsRow w.heap.size 22 1 v L.length (L.map (tsV c)) ∧ Below w.heap.size w w' := by
  have := all_ w _ c _ (behind_set h hT)
  rw [expand_blk] at this
  exact this
theorem gapsS {w : World} {b c : Nat} {L : List Nat} (h : IsSet w b c L) (hT : Tab w) (most : Int) :
    Calls Tryd.prog 63 #[.pointer (some ⟨b, 0, none⟩), .int .i64 most] w fun e w' => ∃ v, e = .returned v ∧ w'.ownsRow w.heap.size 74 2 v ((blk L).take most.toNat).length (((blk L).take most.toNat).flatMap gapC) ∧ Below w.heap.size w w' :=
  gaps_ w _ c _ (behind_set h hT) most
theorem cumS {w : World} {b c : Nat} {L : List Nat} (h : IsSet w b c L) :
    Calls Tryd.prog 45 #[.pointer (some ⟨b, 0, none⟩)] w fun e w' => e = .returned (.int .u32 (c : Int)) ∧ w = w' := by
  obtain ⟨h1, h2, R, h3, h4⟩ := h; exact cum w h3
theorem countS {w : World} {b c : Nat} {L : List Nat} (h : IsSet w b c L) :
    Calls Tryd.prog 74 #[.pointer (some ⟨b, 0, none⟩)] w fun e w' => e = .returned (.int .i64 (L.length : Int)) ∧ w = w' := by
  obtain ⟨h1, h2, R, h3, h4⟩ := h; exact count w h3

theorem Below.grown0 {w w' : World} (h : Below w.heap.size w w') : w.grownBy w' none := ⟨h.os, h.tape, h.output, h.size, fun k hk _ => h.block k hk⟩
theorem grown0.below {w w' : World} (h : w.grownBy w' none) : Below w.heap.size w w' := ⟨h.os, h.tape, h.output, h.size, fun k hk => h.block k hk (by simp)⟩
theorem grownS.below {w w' : World} {b n : Nat} (h : w.grownBy w' (some b)) (hn : n ≤ b) (hs : n ≤ w.heap.size) : Below n w w' := ⟨h.os, h.tape, h.output, h.size, fun k hk => h.block k (by omega) (by intro e; cases e; omega)⟩
theorem IsSet.below {w w' : World} {b c n : Nat} {L : List Nat} (h : IsSet w b c L) (hB : Below n w w') (hb : b < n) : IsSet w' b c L := by
  obtain ⟨h1, h2, R, h3, h4⟩ := h
  exact ⟨h1, h2, R, h3.of_block (hB.block b hb), h4⟩

end Go.Proofs.YtdifceikfnnfeaaDoor.Sp
