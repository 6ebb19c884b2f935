/-
  What a set's blocks are to its distances; what the law's own functions do with sets (alive).
  Conditions: the table of math/bits holds its numbers.
-/
import Derived.Test.YtllipbkpbopomaaDoorSpGaps
namespace Go.Proofs.YtllipbkpbopomaaDoor.Sp
open Go.RowKit Go.Shelf Go.ChangeShapes Go.WideShapes Go.ChangeAt
set_option linter.unusedVariables false

theorem blk_good : ∀ (L : List Nat) (lo : Nat), Good lo L → ∀ g ∈ blk L, lo ≤ g.1 ∧ g.1 ≤ g.2 ∧ g.2 ≤ 65535
  | [], _, _ => by simp [blk]
  | x :: xs, lo, h => by
    obtain ⟨h1, h2, h3⟩ := good_cons h
    have ih := blk_good xs (x + 1) h1
    intro g hg
    rw [blk] at hg
    cases hb : blk xs with
    | nil => rw [hb] at hg; simp at hg; subst hg; simp; omega
    | cons a r =>
      obtain ⟨s, e⟩ := a
      rw [hb] at hg ih
      have ha := ih (s, e) (by simp)
      simp only at hg ha
      split at hg
      · rcases List.mem_cons.1 hg with rfl | hg
        · simp; omega
        · have := ih g (by simp [hg]); omega
      · rcases List.mem_cons.1 hg with rfl | hg
        · simp; omega
        · have := ih g hg; omega
theorem blk_len : ∀ (L : List Nat), (blk L).length ≤ L.length
  | [] => by simp [blk]
  | x :: xs => by
    have ih := blk_len xs
    rw [blk]
    cases hb : blk xs with
    | nil => simp
    | cons a r => rw [hb] at ih; simp at ih; obtain ⟨s, e⟩ := a; simp only; split <;> simp <;> omega
theorem blk_le : ∀ (L : List Nat), ∀ g ∈ blk L, g.1 ≤ g.2
  | [] => by simp [blk]
  | x :: xs => by
    have ih := blk_le xs
    intro g hg
    rw [blk] at hg
    cases hb : blk xs with
    | nil => rw [hb] at hg; simp at hg; subst hg; simp
    | cons a r =>
      obtain ⟨s, e⟩ := a
      rw [hb] at hg ih
      have ha := ih (s, e) (by simp)
      simp only at hg ha
      split at hg
      · rcases List.mem_cons.1 hg with rfl | hg
        · simp; omega
        · exact ih g (by simp [hg])
      · rcases List.mem_cons.1 hg with rfl | hg
        · simp
        · exact ih g hg
theorem expand_blk : ∀ (L : List Nat), expand (blk L) = L
  | [] => by simp [blk, expand]
  | x :: xs => by
    have ih := expand_blk xs
    rw [blk]
    cases hb : blk xs with
    | nil => rw [hb] at ih; simp [expand] at ih ⊢; exact ih
    | cons a r =>
      obtain ⟨s, e⟩ := a
      rw [hb] at ih
      simp only
      split
      · rename_i hs
        subst hs
        rw [← ih]
        simp only [expand, List.flatMap_cons]
        have he : x + 1 ≤ e ∨ e < x + 1 := by omega
        rcases he with he | he
        · rw [show e + 1 - x = (e + 1 - (x + 1)) + 1 by omega, List.range'_succ, List.cons_append]
        · have := blk_le xs (x + 1, e) (by rw [hb]; simp)
          simp at this; omega
      · rw [← ih]
        simp only [expand, List.flatMap_cons]
        rw [show x + 1 - x = 1 by omega]
        simp
/-- the last distance; 0: there is none -/
def lastD (L : List Nat) : Nat := L.getLast?.getD 0
theorem last_blk : ∀ (L : List Nat), lastOf (blk L) = lastD L
  | [] => rfl
  | x :: xs => by
    have ih := last_blk xs
    rw [blk]
    cases hb : blk xs with
    | nil =>
      cases xs with
      | nil => rfl
      | cons y ys => rw [blk_cons] at hb; cases hb
    | cons a r =>
      obtain ⟨s, e⟩ := a
      rw [hb] at ih
      cases xs with
      | nil => simp [blk] at hb
      | cons y ys =>
        have h1 : lastD (x :: y :: ys) = lastD (y :: ys) := by simp [lastD]
        rw [h1, ← ih]
        simp only
        split
        · cases r <;> simp [lastOf]
        · simp [lastOf]
theorem blocks_set {L : List Nat} (h : Good 2 L) : Blocks (blk L) := ⟨Nat.le_trans (blk_len L) (good_len h), blk_good L 2 h⟩

theorem behind_set {w : World} {b c : Nat} {L : List Nat} (h : IsSet w b c L) (hT : Tab w) : Behind w (some ⟨b, 0, none⟩) c (blk L) := by
  refine ⟨hands_set h h.lt hT, blocks_set h.2.1, fun _ => ?_⟩
  obtain ⟨h1, h2, R, h3, h4⟩ := h
  exact ⟨b, R, _, _, rfl, h3, h1⟩

theorem allS {w : World} {b c : Nat} {L : List Nat} (h : IsSet w b c L) (hT : Tab w) :
    Calls Tryd.prog 30 #[.pointer (some ⟨b, 0, none⟩)] w fun e w' => ∃ v, e = .returned v ∧ w'.ownsRow w.heap.size 22 1 v L.length (L.map (tsV c)) ∧ Below w.heap.size w w' := by
  have := all_ w _ c _ (behind_set h hT)
  rw [expand_blk] at this
  exact this
theorem highS {w : World} {b c : Nat} {L : List Nat} (h : IsSet w b c L) (hT : Tab w) :
    Calls Tryd.prog 32 #[.pointer (some ⟨b, 0, none⟩)] w fun e w' => e = .returned (tsV c (lastD L)) ∧ Below w.heap.size w w' := by
  have hh := h
  obtain ⟨h1, h2, R, h3, h4⟩ := hh
  have := high_ w _ c _ (behind_set h hT) h1 (cum _ (h3.grown (World.grownBy_alloc w _ none) (by simp)))
  rw [last_blk] at this
  exact this
theorem gapsS {w : World} {b c : Nat} {L : List Nat} (h : IsSet w b c L) (hT : Tab w) (most : Int) :
    Calls Tryd.prog 19 #[.pointer (some ⟨b, 0, none⟩), .int .i64 most] w fun e w' => ∃ v, e = .returned v ∧ w'.ownsRow w.heap.size 76 2 v ((blk L).take most.toNat).length (((blk L).take most.toNat).flatMap gapC) ∧ Below w.heap.size w w' :=
  gaps_ w _ c _ (behind_set h hT) most
theorem missingS {w : World} {b c : Nat} {L : List Nat} (h : IsSet w b c L) (hT : Tab w) (most : Int) (hm : -9223372036854775808 ≤ most ∧ most ≤ 9223372036854775807) :
    Calls Tryd.prog 22 #[.pointer (some ⟨b, 0, none⟩), .int .i64 most] w fun e w' => ∃ v, e = .returned v ∧ w'.ownsRow w.heap.size 22 1 v ((miss 1 (blk L)).take most.toNat).length (((miss 1 (blk L)).take most.toNat).map (tsV c)) ∧ Below w.heap.size w w' :=
  missing_ w _ c _ (behind_set h hT) most hm
theorem cumS {w : World} {b c : Nat} {L : List Nat} (h : IsSet w b c L) :
    Calls Tryd.prog 29 #[.pointer (some ⟨b, 0, none⟩)] w fun e w' => e = .returned (.int .u32 (c : Int)) ∧ w = w' := by
  obtain ⟨h1, h2, R, h3, h4⟩ := h; exact cum w h3
theorem countS {w : World} {b c : Nat} {L : List Nat} (h : IsSet w b c L) :
    Calls Tryd.prog 34 #[.pointer (some ⟨b, 0, none⟩)] w fun e w' => e = .returned (.int .i64 (L.length : Int)) ∧ w = w' := by
  obtain ⟨h1, h2, R, h3, h4⟩ := h; exact count w h3

theorem Below.grown0 {w w' : World} (h : Below w.heap.size w w') : w.grownBy w' none := ⟨h.os, h.tape, h.output, h.size, fun k hk _ => h.block k hk⟩
theorem grown0.below {w w' : World} (h : w.grownBy w' none) : Below w.heap.size w w' := ⟨h.os, h.tape, h.output, h.size, fun k hk => h.block k hk (by simp)⟩
theorem grownS.below {w w' : World} {b n : Nat} (h : w.grownBy w' (some b)) (hn : n ≤ b) (hs : n ≤ w.heap.size) : Below n w w' := ⟨h.os, h.tape, h.output, h.size, fun k hk => h.block k (by omega) (by intro e; cases e; omega)⟩
theorem IsSet.below {w w' : World} {b c n : Nat} {L : List Nat} (h : IsSet w b c L) (hB : Below n w w') (hb : b < n) : IsSet w' b c L := by
  obtain ⟨h1, h2, R, h3, h4⟩ := h
  exact ⟨h1, h2, R, h3.of_block (hB.block b hb), h4⟩

theorem alive (w : World) (hT : Tab w) :
    Calls Tryd.prog 25 #[] w fun e w' => e = .returned (.bool true) ∧ Below w.heap.size w w' := by
  go_enter Tryd.func25, Tryd.ntmps25
  go_wp2_with fail
  refine (new_ 10 (by decide) w).mono ?_
  rintro e w1 ⟨rfl, hS1, hg1⟩
  have hT1 := hT.grown0 hg1
  go_wp2_with fail
  refine (add_ 12 (by decide) w1 hS1).mono ?_
  rintro e w2 (⟨h, -⟩ | ⟨-, h, -⟩ | ⟨d, -, hd, -, -, -, rfl, hS2, hg2⟩)
  · exact absurd h (by decide)
  · exact absurd h (by decide)
  obtain rfl : d = 2 := by
    have h2 : Ser.dist 4294967296 ((10 : Nat) : Int) ((12 : Nat) : Int) = 2 := by decide
    rw [h2] at hd; omega
  have hb : w.heap.size ≠ 0 := Nat.pos_iff_ne_zero.1 hT.pos
  have hT2 := hT1.grown hg2 hb
  rw [show (10 + addN 2 []) % 4294967296 = 10 by decide, show addL 2 [] = [2] by decide] at hS2
  go_wp2_with fail
  refine (add_ 13 (by decide) w2 hS2).mono ?_
  rintro e w3 (⟨h, -⟩ | ⟨-, h, -⟩ | ⟨d, -, hd, -, -, -, rfl, hS3, hg3⟩)
  · exact absurd h (by decide)
  · exact absurd h (by decide)
  obtain rfl : d = 3 := by
    have h2 : Ser.dist 4294967296 ((10 : Nat) : Int) ((13 : Nat) : Int) = 3 := by decide
    rw [h2] at hd; omega
  have hT3 := hT2.grown hg3 hb
  rw [show (10 + addN 3 [2]) % 4294967296 = 10 by decide, show addL 3 [2] = [2, 3] by decide] at hS3
  have B3 : Below w.heap.size w w3 := ((grown0.below hg1).trans (grownS.below hg2 (Nat.le_refl _) hg1.size)).trans (grownS.below hg3 (Nat.le_refl _) (Nat.le_trans hg1.size hg2.size))
  clear hd
  go_wp2_with fail
  refine (gapsS hS3 hT3 5).mono ?_
  rintro e w4 ⟨v, rfl, ho, hB4⟩
  have hS4 := hS3.below hB4 hS3.lt
  rw [show ((blk [2, 3]).take (5 : Int).toNat) = [(2, 3)] by decide] at ho
  obtain ⟨g, cap, rfl⟩ := ownsRow_succ (k := 0) ho
  have c0 := ho.cellAt 0 (by decide)
  have c1 := ho.cellAt 1 (by decide)
  simp only [List.flatMap_cons, List.flatMap_nil, gapC, List.append_nil, List.getElem?_cons_zero, List.getElem?_cons_succ] at c0 c1
  have HO : Hid _ := ho
  clear ho
  go_wp2_with fail
  refine (cumS hS4).mono ?_
  rintro e w5 ⟨rfl, rfl⟩
  go_wp2
  go_ret
  exact ⟨rfl, B3.trans (hB4.mono B3.size)⟩
end Go.Proofs.YtllipbkpbopomaaDoor.Sp
