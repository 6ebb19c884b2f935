/-
  What bytes begin with: a chunk, or an error; there is but one answer.
  Conditions: none.
-/
import Derived.Test.YtifdkpifambhaaaChP
import Derived.Test.YtifdkpifambhaaaParM
namespace Go.Proofs.Ytifdkpifambhaaa.Chu
open Go.ChangeShapes Go.WideShapes Go.ChangeAt Go.RowKit
open Par (hidden Bytes Row Prm Prms cell_lt Cap cells_new cutA thrown form_of)
set_option linter.unusedVariables false

/-- the flags that count, cut out -/
def flg (k f : Int) : Int := if k = 0 then f % 8 else if k = 6 ∨ k = 14 then f % 2 else if k = 1 ∨ k = 2 ∨ k = 3 ∨ k = 16 ∨ k = 4 ∨ k = 5 ∨ k = 9 ∨ k = 7 ∨ k = 8 ∨ k = 10 ∨ k = 11 then 0 else f
theorem flg_and (k f : Int) (h0 : 0 ≤ f) (h1 : f < 256) : bits .and .u8 f (cnt k) = flg k f := by
  obtain ⟨n, rfl⟩ : ∃ n : Nat, f = n := ⟨f.toNat, by omega⟩
  have a7 : ∀ n : Fin 256, bits .and .u8 (n.val : Int) 7 = (n.val : Int) % 8 := by decide +kernel
  have a1 : ∀ n : Fin 256, bits .and .u8 (n.val : Int) 1 = (n.val : Int) % 2 := by decide +kernel
  have a0 : ∀ n : Fin 256, bits .and .u8 (n.val : Int) 0 = 0 := by decide +kernel
  have a255 : ∀ n : Fin 256, bits .and .u8 (n.val : Int) 255 = (n.val : Int) := by decide +kernel
  unfold cnt flg
  by_cases a : k = 0
  · rw [if_pos a, if_pos a]; exact a7 ⟨n, by omega⟩
  · rw [if_neg a, if_neg a]
    by_cases b : k = 6 ∨ k = 14
    · rw [if_pos b, if_pos b]; exact a1 ⟨n, by omega⟩
    · rw [if_neg b, if_neg b]
      by_cases c : k = 1 ∨ k = 2 ∨ k = 3 ∨ k = 16 ∨ k = 4 ∨ k = 5 ∨ k = 9 ∨ k = 7 ∨ k = 8 ∨ k = 10 ∨ k = 11
      · rw [if_pos c, if_pos c]; exact a0 ⟨n, by omega⟩
      · rw [if_neg c, if_neg c]; exact a255 ⟨n, by omega⟩
theorem flg_ok (k f : Int) (h0 : 0 ≤ f) (h1 : f < 256) : FlagOk k (flg k f) ∧ 0 ≤ flg k f ∧ flg k f < 256 := by
  unfold FlagOk flg
  by_cases a : k = 0
  · simp only [if_pos a]; omega
  · simp only [if_neg a]
    by_cases b : k = 6 ∨ k = 14
    · simp only [if_pos b]; omega
    · simp only [if_neg b]
      by_cases c : k = 1 ∨ k = 2 ∨ k = 3 ∨ k = 16 ∨ k = 4 ∨ k = 5 ∨ k = 9 ∨ k = 7 ∨ k = 8 ∨ k = 10 ∨ k = 11
      · rw [if_pos c, if_pos c]; exact ⟨rfl, by decide, by decide⟩
      · rw [if_neg c, if_neg c]; exact ⟨trivial, h0, h1⟩
theorem flg_id (k f : Int) (h0 : 0 ≤ f) (h : FlagOk k f) : flg k f = f := by
  unfold FlagOk at h
  unfold flg
  by_cases a : k = 0
  · simp only [if_pos a] at h ⊢; omega
  · simp only [if_neg a] at h ⊢
    by_cases b : k = 6 ∨ k = 14
    · simp only [if_pos b] at h ⊢; omega
    · simp only [if_neg b] at h ⊢
      by_cases c : k = 1 ∨ k = 2 ∨ k = 3 ∨ k = 16 ∨ k = 4 ∨ k = 5 ∨ k = 9 ∨ k = 7 ∨ k = 8 ∨ k = 10 ∨ k = 11
      · simp only [if_pos c] at h ⊢; omega
      · simp only [if_neg c]
/-- the zero chunk, what it says; with its kind and flags -/
def zch (k f : Int) : Ch := ⟨k, f, 0, 0, 0, 0, 0, 0, 0, 0, [], [], [], [], []⟩
/-- the value that a head tells -/
def body (zs : List Int) : List Int := (zs.take (n2 zs 2).toNat).drop 4
/-- the head is there, and what it tells -/
def Cut (zs : List Int) : Prop := zs.length < 4 ∨ n2 zs 2 < 4 ∨ (zs.length : Int) < n2 zs 2
/-- what bytes begin with: the error, or (error 0) the chunk and how many bytes are its own -/
def Dec (zs : List Int) (e : Int) (y : Ch) (m : Nat) : Prop :=
  (Cut zs ∧ e = 60) ∨ (¬ Cut zs ∧ Fil (zs.getD 0 0) (body zs) (zch (zs.getD 0 0) (flg (zs.getD 0 0) (zs.getD 1 0))) e y ∧ (e = 0 → m = min (Par.fill4 (n2 zs 2).toNat) zs.length))
set_option maxHeartbeats 2000000 in
theorem Fil.one {k : Int} {v : List Int} {x y y' : Ch} {e e' : Int} (h : Fil k v x e y) (h' : Fil k v x e' y') : e = e' ∧ (e = 0 → y = y') := by
  unfold Fil at h h'
  by_cases a : v.length < nb k
  · rw [if_pos a] at h h'; exact ⟨by omega, fun h => by omega⟩
  rw [if_neg a] at h h'
  clear a
  by_cases a : k = 3 ∨ k = 16
  · rw [if_pos a] at h h'
    rcases h with ⟨h1, h2⟩ | ⟨h1, h2, h3⟩ | ⟨h1, h2, h3, h4⟩ <;> rcases h' with ⟨g1, g2⟩ | ⟨g1, g2, g3⟩ | ⟨g1, g2, g3, g4⟩ <;> first | exact absurd g1 h1 | exact absurd h1 g1 | exact absurd g2 h2 | exact absurd h2 g2 | exact ⟨by omega, fun h => by omega⟩ | exact ⟨by omega, fun _ => by rw [h4, g4]⟩
  rw [if_neg a] at h h'
  clear a
  by_cases a : k = 7
  · rw [if_pos a] at h h'
    rcases h with ⟨h1, h2⟩ | ⟨h1, h2, h3⟩ <;> rcases h' with ⟨g1, g2⟩ | ⟨g1, g2, g3⟩ <;> first | exact absurd g1 h1 | exact absurd h1 g1 | exact ⟨by omega, fun h => by omega⟩ | exact ⟨by omega, fun _ => by rw [h3, g3]⟩
  rw [if_neg a] at h h'
  clear a
  by_cases a : k = 8 ∨ k = 11 ∨ k = 14
  · rw [if_pos a] at h h'
    rcases h with ⟨h1, h2⟩ | ⟨h1, h2, h3⟩ <;> rcases h' with ⟨g1, g2⟩ | ⟨g1, g2, g3⟩ <;> first | exact absurd g1 h1 | exact absurd h1 g1 | exact ⟨by omega, fun h => by omega⟩ | exact ⟨by omega, fun _ => by rw [h3, g3]⟩
  rw [if_neg a] at h h'
  clear a
  by_cases a : k = 1 ∨ k = 2
  · rw [if_pos a] at h h'
    obtain ⟨l, q, c, o, h⟩ := h
    obtain ⟨l', q', c', o', h'⟩ := h'
    obtain ⟨rfl, rfl, rfl⟩ := o.one o'
    rcases h with ⟨h1, h2⟩ | ⟨h1, h2, h3⟩ <;> rcases h' with ⟨g1, g2⟩ | ⟨g1, g2, g3⟩ <;> first | exact absurd g1 h1 | exact absurd h1 g1 | exact ⟨by omega, fun h => by omega⟩ | exact ⟨by omega, fun _ => by rw [h3, g3]⟩
  rw [if_neg a] at h h'
  clear a
  by_cases a : k = 4 ∨ k = 5
  · rw [if_pos a] at h h'
    obtain ⟨l, q, c, o, h⟩ := h
    obtain ⟨l', q', c', o', h'⟩ := h'
    obtain ⟨rfl, rfl, rfl⟩ := o.one o'
    rcases h with ⟨h1, h2⟩ | ⟨h1, h2, h3⟩ | ⟨h1, h2, h3, h4⟩ <;> rcases h' with ⟨g1, g2⟩ | ⟨g1, g2, g3⟩ | ⟨g1, g2, g3, g4⟩ <;> first | exact absurd g1 h1 | exact absurd h1 g1 | exact absurd g2 h2 | exact absurd h2 g2 | exact ⟨by omega, fun h => by omega⟩ | exact ⟨by omega, fun _ => by rw [h4, g4]⟩
  rw [if_neg a] at h h'
  clear a
  by_cases a : k = 6 ∨ k = 9
  · rw [if_pos a] at h h'
    obtain ⟨l, q, c, o, h⟩ := h
    obtain ⟨l', q', c', o', h'⟩ := h'
    obtain ⟨rfl, rfl, rfl⟩ := o.one o'
    rcases h with ⟨h1, h2⟩ | ⟨h1, h2, h3⟩ <;> rcases h' with ⟨g1, g2⟩ | ⟨g1, g2, g3⟩ <;> first | exact absurd g1 h1 | exact absurd h1 g1 | exact ⟨by omega, fun h => by omega⟩ | exact ⟨by omega, fun _ => by rw [h3, g3]⟩
  rw [if_neg a] at h h'
  clear a
  by_cases a : k = 0
  · rw [if_pos a] at h h'
    rcases h with ⟨h1, h2⟩ | ⟨h1, h2, h3⟩ <;> rcases h' with ⟨g1, g2⟩ | ⟨g1, g2, g3⟩ <;> first | exact absurd g1 h1 | exact absurd h1 g1 | exact ⟨by omega, fun h => by omega⟩ | exact ⟨by omega, fun _ => by rw [h3, g3]⟩
  rw [if_neg a] at h h'
  exact ⟨by omega, fun _ => by rw [h.2, h'.2]⟩
theorem Dec.one {zs : List Int} {e e' : Int} {y y' : Ch} {m m' : Nat} (h : Dec zs e y m) (h' : Dec zs e' y' m') : e = e' ∧ (e = 0 → y = y' ∧ m = m') := by
  rcases h with ⟨h1, h2⟩ | ⟨h1, h2, h3⟩ <;> rcases h' with ⟨g1, g2⟩ | ⟨g1, g2, g3⟩
  · exact ⟨by omega, fun h => by omega⟩
  · exact absurd h1 g1
  · exact absurd g1 h1
  · obtain ⟨a, b⟩ := h2.one g2
    exact ⟨a, fun he => ⟨b he, by rw [h3 he, g3 (by omega)]⟩⟩
end Go.Proofs.Ytifdkpifambhaaa.Chu
