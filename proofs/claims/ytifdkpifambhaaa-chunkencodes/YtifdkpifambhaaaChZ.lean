/-
  The bytes of chunks that may be.
  Conditions: the numbers lie within their kinds.
-/
import Derived.Test.YtifdkpifambhaaaChW
namespace Go.Proofs.Ytifdkpifambhaaa.Chu
open Go.ChangeShapes Go.WideShapes Go.ChangeAt Go.RowKit
open Par (hidden Bytes Row Prm Prms cell_lt)
set_option linter.unusedVariables false

theorem bytes_append {xs ys : List Int} (h1 : Bytes xs) (h2 : Bytes ys) : Bytes (xs ++ ys) := fun x hx => by
  rcases List.mem_append.1 hx with h | h
  · exact h1 x h
  · exact h2 x h
theorem twos_bytes {xs : List Int} (h : ∀ x ∈ xs, 0 ≤ x ∧ x < 65536) : Bytes (twos xs) := by
  intro y hy
  obtain ⟨x, hx, hm⟩ := List.mem_flatMap.1 hy
  have := h x hx
  simp only [List.mem_cons, List.not_mem_nil, or_false] at hm
  rcases hm with rfl | rfl <;> omega
theorem fours_bytes {xs : List Int} (h : ∀ x ∈ xs, 0 ≤ x ∧ x < 4294967296) : Bytes (fours xs) := by
  intro y hy
  obtain ⟨x, hx, hm⟩ := List.mem_flatMap.1 hy
  have := h x hx
  simp only [List.mem_cons, List.not_mem_nil, or_false] at hm
  rcases hm with rfl | rfl | rfl | rfl <;> omega
theorem gbytes_bytes {gs : List (Int × Int)} (h : ∀ g ∈ gs, (0 ≤ g.1 ∧ g.1 < 65536) ∧ (0 ≤ g.2 ∧ g.2 < 65536)) : Bytes (gbytes gs) := by
  intro y hy
  obtain ⟨g, hg, hm⟩ := List.mem_flatMap.1 hy
  exact twos_bytes (two_in (h g hg).1 (h g hg).2) y hm
theorem num_bytes {v : Ch} (h : VOk v) (hg : v.gs.length ≤ 4096) (hn : v.ns.length ≤ 4096) (hd : v.ds.length ≤ 4096) : Bytes (num v) := by
  obtain ⟨v1, v2, v3, v4, v5, v6, v7, v8, v9, v10, _⟩ := h
  unfold num
  split
  · exact bytes_append (bytes_append (fours_bytes (one32 v3)) (twos_bytes (two_in v4 v5))) (fours_bytes (one32 v6))
  split
  · exact bytes_append (bytes_append (fours_bytes (two32 v7 v8)) (twos_bytes (two_in v9 v10))) (fours_bytes (one32 v3))
  split
  · exact bytes_append (fours_bytes (two32 v3 v8)) (twos_bytes (two_in (by omega) (by omega)))
  split
  · exact bytes_append (fours_bytes (two32 v3 v8)) (twos_bytes (four_in (by omega) (by omega) (by omega) (by omega)))
  split
  · exact fours_bytes (one32 v3)
  · exact bs_nil
theorem vby_bytes {v : Ch} (h : VOk v) (hok : chk v = 0) : Bytes (vby v) := by
  obtain ⟨_, hl, _, _⟩ := chk_ok hok
  have hn := num_bytes h (by omega) (by omega) (by omega)
  obtain ⟨v1, v2, v3, v4, v5, v6, v7, v8, v9, v10, v11, v12, v13, v14, v15⟩ := h
  exact bytes_append hn (bytes_append (bytes_append (bytes_append (bytes_append (gbytes_bytes v11) (gbytes_bytes v12)) (fours_bytes v13)) (Par.enc_bytes v.ps v15)) v14)
theorem encC_bytes {v : Ch} (h : VOk v) (hok : chk v = 0) : Bytes (encC v) := by
  have hb := vby_bytes h hok
  obtain ⟨_, _, _, hvl⟩ := chk_ok hok
  refine bytes_append (bytes_append (bytes_append ?_ (twos_bytes ?_)) hb) ?_
  · intro x hx
    simp only [List.mem_cons, List.not_mem_nil, or_false] at hx
    rcases hx with rfl | rfl
    · exact h.1
    · exact h.2.1
  · intro x hx
    obtain rfl : x = 4 + (vlen v : Int) := by simpa using hx
    omega
  · intro x hx
    obtain ⟨_, rfl⟩ := List.mem_replicate.1 hx
    decide
theorem encA_bytes {vs : List Ch} (h : ∀ v ∈ vs, VOk v) (hok : ∀ v ∈ vs, chk v = 0) : Bytes (encA vs) := by
  intro y hy
  obtain ⟨v, hv, hm⟩ := List.mem_flatMap.1 hy
  exact encC_bytes (h v hv) (hok v hv) y hm
theorem all_one {α : Type} {p : α → Prop} {v : α} (h : p v) : ∀ u ∈ [v], p u := by
  intro u hu
  obtain rfl : u = v := by simpa using hu
  exact h
theorem tot_one (v : Ch) : tot [v] = clen v := by simp [tot]
theorem encA_one (v : Ch) : encA [v] = encC v ++ [] := by simp [encA]
/-- one chunk that may be has bytes -/
theorem encR_one {v : Ch} {e : Int} (h : EncR [v] e) (hv : chk v = 0) : e = 0 := by
  rcases h with ⟨k, u, hk, _, hne, _⟩ | ⟨_, ht, _⟩ | ⟨_, _, h⟩
  · have : u ∈ [v] := List.mem_of_getElem? hk
    obtain rfl : u = v := by simpa using this
    exact absurd hv hne
  · rw [tot_one] at ht
    have := clen_le hv
    omega
  · exact h
/-- .. and is read from them -/
theorem read_one {v y : Ch} {e : Int} {m : Nat} (hv : VOk v) (hok : chk v = 0) (h : Dec (encA [v]) e y m) : e = 0 ∧ y = v ∧ m = clen v := by
  rw [encA_one] at h
  obtain ⟨a, b⟩ := (back v hv hok []).one h
  obtain ⟨c, d⟩ := b rfl
  exact ⟨a.symm, c.symm, d.symm⟩
end Go.Proofs.Ytifdkpifambhaaa.Chu
