/-
  Messages and pieces as lists: cut, put together, in a row.
  Conditions: as at each lemma.
-/
import Derived.Test.YteomkmbaoaahoaaFrA
namespace Go.Proofs.Yteomkmbaoaahoaa.Fr
open Go.ChangeShapes Go.WideShapes Go.ChangeAt Go.RowKit
set_option linter.unusedVariables false

/-- all bytes, one behind the other -/
def flat (vs : List V) : List Int := vs.flatMap (·.2.2)
theorem flat_append (xs ys : List V) : flat (xs ++ ys) = flat xs ++ flat ys := List.flatMap_append
theorem flat_one (v : V) : flat [v] = v.2.2 := by simp [flat]
theorem take_next {α : Type} {l : List α} {k : Nat} {x : α} (h : l[k]? = some x) : l.take (k + 1) = l.take k ++ [x] := by
  rw [List.take_add_one, h]; rfl
theorem flat_next {vs : List V} {k : Nat} {v : V} (h : vs[k]? = some v) : flat (vs.take (k + 1)) = flat (vs.take k) ++ v.2.2 := by
  rw [take_next h, flat_append, flat_one]
theorem flat_take_le (vs : List V) (k : Nat) : (flat (vs.take k)).length ≤ (flat vs).length := by
  conv => rhs; rw [← List.take_append_drop k vs, flat_append, List.length_append]
  omega
theorem flat_bytes {vs : List V} (h : ∀ v ∈ vs, Bytes v.2.2) : Bytes (flat vs) := by
  intro n hn
  obtain ⟨v, hv, hm⟩ := List.mem_flatMap.1 hn
  exact h v hv n hm

/-- how many pieces -/
def cnt (len n : Nat) : Nat := (len + n - 1) / n
theorem cnt_lt {len n : Nat} (hn : 1 ≤ n) (j : Nat) : j < cnt len n ↔ j * n < len := by
  unfold cnt
  rw [Nat.lt_iff_add_one_le, Nat.le_div_iff_mul_le (by omega), Nat.add_mul]
  omega
theorem cnt_le {len n : Nat} (hn : 1 ≤ n) : cnt len n ≤ len := by
  rcases Nat.lt_or_ge len (cnt len n) with h | h
  · have h1 := (cnt_lt (len := len) hn len).1 h
    have h2 : len * 1 ≤ len * n := Nat.mul_le_mul_left _ hn
    omega
  · exact h
theorem cnt_pos {len n : Nat} (hn : 1 ≤ n) (h : 1 ≤ len) : 0 < cnt len n := (cnt_lt hn 0).2 (by omega)
theorem cnt_end {len n : Nat} (hn : 1 ≤ n) : len ≤ cnt len n * n := by
  have := mt (cnt_lt (len := len) hn (cnt len n)).2 (Nat.lt_irrefl _)
  omega
/-- piece j of a message -/
def cutJ (zs : List Int) (n j : Nat) : V := (decide (j = 0), decide (j + 1 = cnt zs.length n), (zs.drop (j * n)).take n)
/-- a message's pieces -/
def cutV (zs : List Int) (n : Nat) : List V := (List.range (cnt zs.length n)).map (cutJ zs n)
theorem cutV_len (zs : List Int) (n : Nat) : (cutV zs n).length = cnt zs.length n := by simp [cutV]
theorem cutV_at {zs : List Int} {n j : Nat} (h : j < cnt zs.length n) : (cutV zs n)[j]? = some (cutJ zs n j) := by
  unfold cutV
  rw [List.getElem?_map, List.getElem?_range h]
  rfl
theorem cutV_get {zs : List Int} {n j : Nat} {v : V} (h : (cutV zs n)[j]? = some v) : j < cnt zs.length n ∧ v = cutJ zs n j := by
  have hj : j < cnt zs.length n := by
    rw [← cutV_len]
    exact (List.getElem?_eq_some_iff.1 h).1
  rw [cutV_at hj] at h
  exact ⟨hj, (Option.some.inj h).symm⟩
theorem cutJ_len {zs : List Int} {n j : Nat} (hn : 1 ≤ n) (hj : j < cnt zs.length n) : 0 < (cutJ zs n j).2.2.length ∧ (cutJ zs n j).2.2.length ≤ n ∧ (j + 1 < cnt zs.length n → (cutJ zs n j).2.2.length = n) ∧ (cutJ zs n j).2.2.length = min n (zs.length - j * n) := by
  have h1 := (cnt_lt (len := zs.length) hn j).1 hj
  have h2 := cnt_lt (len := zs.length) hn (j + 1)
  rw [Nat.add_mul, Nat.one_mul] at h2
  simp only [cutJ, List.length_take, List.length_drop]
  refine ⟨by omega, by omega, fun h => ?_, trivial⟩
  have := h2.1 h
  omega
theorem cutV_flat_take {zs : List Int} {n : Nat} : ∀ j, j ≤ cnt zs.length n → flat ((cutV zs n).take j) = zs.take (j * n)
  | 0, _ => by simp [flat]
  | j + 1, h => by
    rw [flat_next (cutV_at (by omega)), cutV_flat_take j (by omega), Nat.add_mul, Nat.one_mul, List.take_add]
    rfl
theorem cutV_flat {zs : List Int} {n : Nat} (hn : 1 ≤ n) : flat (cutV zs n) = zs := by
  have := cutV_flat_take (zs := zs) (n := n) _ (Nat.le_refl _)
  rw [List.take_of_length_le (by rw [cutV_len]; omega), List.take_of_length_le (cnt_end hn)] at this
  exact this

/-- a piece at fault, for Join -/
def badP (n k : Nat) (v : V) : Bool := decide (v.2.2.length = 0) || (v.1 != decide (k = 0)) || (v.2.1 && decide (k + 1 < n))
/-- no piece ahead of k is -/
def NoBad (vs : List V) (k : Nat) : Prop := ∀ j v, j < k → vs[j]? = some v → badP vs.length j v = false
theorem NoBad.zero (vs : List V) : NoBad vs 0 := fun j v h => absurd h (Nat.not_lt_zero _)
theorem NoBad.next {vs : List V} {k : Nat} {v : V} (h : NoBad vs k) (hv : vs[k]? = some v) (hb : badP vs.length k v = false) : NoBad vs (k + 1) := by
  intro j u hj hu
  rcases Nat.lt_or_ge j k with h1 | h1
  · exact h j u h1 hu
  · obtain rfl : j = k := by omega
    rw [hv] at hu
    cases hu
    exact hb
theorem NoBad.full {vs : List V} {k : Nat} (h : NoBad vs k) (hk : vs.length ≤ k) {m : Nat} : NoBad vs m := fun j v _ hv => h j v (by have := (List.getElem?_eq_some_iff.1 hv).1; omega) hv
theorem NoBad.ne {vs : List V} {k : Nat} (h : NoBad vs k) : ∀ v ∈ vs.take k, v.2.2 ≠ [] := by
  intro v hv e
  obtain ⟨j, hj⟩ := List.mem_iff_getElem?.1 hv
  have hjk : j < k := by
    have := (List.getElem?_eq_some_iff.1 hj).1
    rw [List.length_take] at this
    omega
  rw [List.getElem?_take, if_pos hjk] at hj
  have := h j _ hjk hj
  simp [badP, e] at this
/-- the last piece ends -/
def lastEnd (vs : List V) : Bool := ((vs[vs.length - 1]?).map (·.2.1)).getD false
/-- what Join tells -/
def JO (vs : List V) (bs : List Int) (i : Nat) (er : Int) : Prop :=
  (∃ k v, vs[k]? = some v ∧ badP vs.length k v = true ∧ NoBad vs k ∧ bs = [] ∧ i = k ∧ er = 150) ∨
  (NoBad vs vs.length ∧ lastEnd vs = false ∧ bs = [] ∧ i = vs.length ∧ er = 150) ∨
  (NoBad vs vs.length ∧ lastEnd vs = true ∧ 65536 < (flat vs).length ∧ bs = [] ∧ i = 0 ∧ er = 2) ∨
  (NoBad vs vs.length ∧ lastEnd vs = true ∧ (flat vs).length ≤ 65536 ∧ bs = flat vs ∧ i = 0 ∧ er = 0)
theorem NoBad.not {vs : List V} {k m : Nat} {v : V} (h : NoBad vs m) (hk : k < m) (hv : vs[k]? = some v) (hb : badP vs.length k v = true) : False := by
  have := h k v hk hv
  rw [hb] at this
  cases this
theorem JO.unique {vs : List V} {bs bs' : List Int} {i i' : Nat} {er er' : Int} (h : JO vs bs i er) (h' : JO vs bs' i' er') : bs = bs' ∧ i = i' ∧ er = er' := by
  have hlt : ∀ {k : Nat} {v : V}, vs[k]? = some v → k < vs.length := fun hv => (List.getElem?_eq_some_iff.1 hv).1
  rcases h with ⟨k, v, hv, hb, hn, rfl, rfl, rfl⟩ | ⟨hn, hl, rfl, rfl, rfl⟩ | ⟨hn, hl, hf, rfl, rfl, rfl⟩ | ⟨hn, hl, hf, rfl, rfl, rfl⟩ <;>
    rcases h' with ⟨k', v', hv', hb', hn', rfl, rfl, rfl⟩ | ⟨hn', hl', rfl, rfl, rfl⟩ | ⟨hn', hl', hf', rfl, rfl, rfl⟩ | ⟨hn', hl', hf', rfl, rfl, rfl⟩
  · refine ⟨rfl, ?_, rfl⟩
    rcases Nat.lt_trichotomy i i' with h | h | h
    · exact (hn'.not h hv hb).elim
    · exact h
    · exact (hn.not h hv' hb').elim
  all_goals first
    | exact ⟨rfl, rfl, rfl⟩
    | exact (hn'.not (hlt hv) hv hb).elim
    | exact (hn.not (hlt hv') hv' hb').elim
    | omega
    | (rw [hl] at hl'; cases hl')
theorem cut_nobad {zs : List Int} {n : Nat} (hn : 1 ≤ n) (m : Nat) : NoBad (cutV zs n) m := by
  intro j v _ hv
  obtain ⟨hj, rfl⟩ := cutV_get hv
  have h1 := (cutJ_len hn hj).1
  rw [cutV_len]
  have e1 : decide ((cutJ zs n j).2.2.length = 0) = false := decide_eq_false (by omega)
  have e2 : (cutJ zs n j).1 = decide (j = 0) := rfl
  have e3 : (cutJ zs n j).2.1 = decide (j + 1 = cnt zs.length n) := rfl
  unfold badP
  rw [e1, e2, e3]
  by_cases h : j + 1 = cnt zs.length n
  · rw [decide_eq_false (show ¬ j + 1 < cnt zs.length n by omega)]
    simp
  · rw [decide_eq_false h]
    simp
theorem cut_last {zs : List Int} {n : Nat} (hn : 1 ≤ n) (hz : 1 ≤ zs.length) : lastEnd (cutV zs n) = true := by
  have := cnt_pos hn hz
  unfold lastEnd
  rw [cutV_len, cutV_at (by omega)]
  simp [cutJ]
  omega
theorem cut_join {zs : List Int} {n : Nat} (hn : 1 ≤ n) (hz : 1 ≤ zs.length) (hm : zs.length ≤ 65536) : JO (cutV zs n) zs 0 0 :=
  .inr (.inr (.inr ⟨cut_nobad hn _, cut_last hn hz, by rw [cutV_flat hn]; exact hm, (cutV_flat hn).symm, rfl, rfl⟩))

/-- where a row of pieces stands: whole messages, the bytes of the open one, its pieces -/
abbrev S := List (List Int) × List Int × Nat
def stE (s : S) (v : V) : Int := if v.2.2.length = 0 ∨ v.1 ≠ decide (s.2.2 = 0) then 150 else if 65536 < s.2.1.length + v.2.2.length then 2 else 0
def stS (s : S) (v : V) : S := bif v.2.1 then (s.1 ++ [s.2.1 ++ v.2.2], [], 0) else (s.1, s.2.1 ++ v.2.2, s.2.2 + 1)
def run (s : S) : List V → Option S
  | [] => some s
  | v :: r => if stE s v = 0 then run (stS s v) r else none
theorem run_append : ∀ (xs ys : List V) (s : S), run s (xs ++ ys) = (run s xs).bind fun s' => run s' ys
  | [], ys, s => rfl
  | x :: xs, ys, s => by
    show (if stE s x = 0 then run (stS s x) (xs ++ ys) else none) = (if stE s x = 0 then run (stS s x) xs else none).bind _
    by_cases h : stE s x = 0
    · rw [if_pos h, if_pos h]; exact run_append xs ys _
    · rw [if_neg h, if_neg h]; rfl
abbrev s0 : S := ([], [], 0)
theorem run_next {vs : List V} {k : Nat} {v : V} {s : S} (h : run s0 (vs.take k) = some s) (hv : vs[k]? = some v) : run s0 (vs.take (k + 1)) = if stE s v = 0 then some (stS s v) else none := by
  rw [take_next hv, run_append, h]
  rfl
theorem run_back {vs : List V} {k m : Nat} {s : S} (h : run s0 (vs.take m) = some s) (hk : k ≤ m) : ∃ s', run s0 (vs.take k) = some s' := by
  have e : vs.take m = vs.take k ++ (vs.take m).drop k := by
    conv => lhs; rw [← List.take_append_drop k (vs.take m)]
    rw [List.take_take, Nat.min_eq_left hk]
  rw [e, run_append] at h
  cases hr : run s0 (vs.take k) with
  | none => rw [hr] at h; cases h
  | some s' => exact ⟨s', rfl⟩
/-- what Runs tells -/
def RO (vs : List V) (D : List (List Int)) (left i : Nat) (er : Int) : Prop :=
  (∃ k s v, run s0 (vs.take k) = some s ∧ vs[k]? = some v ∧ stE s v ≠ 0 ∧ D = [] ∧ left = 0 ∧ i = k ∧ er = stE s v) ∨
  (∃ s, run s0 vs = some s ∧ D = s.1 ∧ left = s.2.2 ∧ i = 0 ∧ er = 0)
theorem run_stop {vs : List V} {k m : Nat} {s s' : S} {v : V} (h : run s0 (vs.take k) = some s) (hv : vs[k]? = some v) (he : stE s v ≠ 0) (h' : run s0 (vs.take m) = some s') (hk : k < m) : False := by
  obtain ⟨s2, h2⟩ := run_back h' hk
  rw [run_next h hv, if_neg he] at h2
  cases h2
theorem RO.unique {vs : List V} {D D' : List (List Int)} {l l' i i' : Nat} {er er' : Int} (h : RO vs D l i er) (h' : RO vs D' l' i' er') : D = D' ∧ l = l' ∧ i = i' ∧ er = er' := by
  have hlt : ∀ {k : Nat} {v : V}, vs[k]? = some v → k < vs.length := fun hv => (List.getElem?_eq_some_iff.1 hv).1
  have hall : run s0 vs = run s0 (vs.take vs.length) := by rw [List.take_length]
  rcases h with ⟨k, s, v, hr, hv, he, rfl, rfl, rfl, rfl⟩ | ⟨s, hr, rfl, rfl, rfl, rfl⟩ <;> rcases h' with ⟨k', s', v', hr', hv', he', rfl, rfl, rfl, rfl⟩ | ⟨s', hr', rfl, rfl, rfl, rfl⟩
  · have e : i = i' := by
      rcases Nat.lt_trichotomy i i' with h | h | h
      · exact (run_stop hr hv he hr' h).elim
      · exact h
      · exact (run_stop hr' hv' he' hr h).elim
    subst e
    rw [hr] at hr'
    cases hr'
    rw [hv] at hv'
    cases hv'
    exact ⟨rfl, rfl, rfl, rfl⟩
  · rw [hall] at hr'
    exact (run_stop hr hv he hr' (hlt hv)).elim
  · rw [hall] at hr
    exact (run_stop hr' hv' he' hr (hlt hv')).elim
  · rw [hr] at hr'
    cases hr'
    exact ⟨rfl, rfl, rfl, rfl⟩
theorem drop_take_next {vs : List V} {k m : Nat} {v : V} (hm : m ≤ k) (hv : vs[k]? = some v) : (vs.drop (k - m)).take (m + 1) = (vs.drop (k - m)).take m ++ [v] := by
  apply take_next
  rw [List.getElem?_drop, show k - m + m = k by omega]
  exact hv
/-- what a place in a row of pieces says -/
theorem run_seg {vs : List V} : ∀ (k : Nat) (s : S), k ≤ vs.length → run s0 (vs.take k) = some s → s.2.2 ≤ k ∧ s.2.1 = flat ((vs.drop (k - s.2.2)).take s.2.2) ∧ s.2.1.length ≤ 65536 ∧ s.1.length ≤ k ∧ (∀ v ∈ (vs.drop (k - s.2.2)).take s.2.2, v.2.2 ≠ [])
  | 0, s, _, h => by
    cases h
    exact ⟨by simp, by simp [flat], by simp, by simp, by simp⟩
  | k + 1, s, hk, h => by
    obtain ⟨v, hv⟩ : ∃ v, vs[k]? = some v := ⟨_, List.getElem?_eq_getElem (by omega)⟩
    obtain ⟨s1, h1⟩ := run_back h (Nat.le_succ k)
    obtain ⟨i1, i2, i3, i4, i5⟩ := run_seg k s1 (by omega) h1
    rw [run_next h1 hv] at h
    by_cases he : stE s1 v = 0
    · rw [if_pos he] at h
      obtain rfl := Option.some.inj h
      have hz : v.2.2 ≠ [] ∧ s1.2.1.length + v.2.2.length ≤ 65536 := by
        unfold stE at he
        split at he
        · cases he
        · rename_i hn
          split at he
          · cases he
          · refine ⟨fun e => hn (.inl (by rw [e]; rfl)), by omega⟩
      unfold stS
      cases v.2.1 with
      | true =>
        refine ⟨by simp, by simp [flat], by simp, ?_, by simp⟩
        simp only [cond_true, List.length_append, List.length_cons, List.length_nil]
        omega
      | false =>
        have e := drop_take_next i1 hv
        simp only [cond_false]
        rw [show k + 1 - (s1.2.2 + 1) = k - s1.2.2 by omega, e]
        refine ⟨by omega, by rw [flat_append, flat_one, ← i2], by rw [List.length_append]; omega, by omega, fun u hu => ?_⟩
        rcases List.mem_append.1 hu with hu | hu
        · exact i5 u hu
        · obtain rfl := List.mem_singleton.1 hu
          exact hz.1
    · rw [if_neg he] at h; cases h
theorem cut_run_take {zs : List Int} {n : Nat} (hn : 1 ≤ n) (hm : zs.length ≤ 65536) (D : List (List Int)) : ∀ j, j ≤ cnt zs.length n → run (D, [], 0) ((cutV zs n).take j) = some (if j = cnt zs.length n ∧ 0 < j then (D ++ [zs], [], 0) else (D, zs.take (j * n), j))
  | 0, _ => by simp [run]
  | j + 1, h => by
    have hj : j < cnt zs.length n := by omega
    rw [take_next (cutV_at hj), run_append, cut_run_take hn hm D j (by omega), if_neg (by omega)]
    obtain ⟨l1, l2, _, l4⟩ := cutJ_len hn hj
    have hlt := (cnt_lt (len := zs.length) hn j).1 hj
    have he : stE (D, zs.take (j * n), j) (cutJ zs n j) = 0 := by
      unfold stE
      rw [if_neg (by simp only [cutJ] at *; simp; omega), if_neg]
      simp only [List.length_take]
      omega
    show (if stE (D, zs.take (j * n), j) (cutJ zs n j) = 0 then some (stS (D, zs.take (j * n), j) (cutJ zs n j)) else none) = _
    rw [if_pos he]
    have et : zs.take (j * n) ++ (cutJ zs n j).2.2 = zs.take ((j + 1) * n) := by
      rw [Nat.add_mul, Nat.one_mul, List.take_add]
      rfl
    by_cases hl : j + 1 = cnt zs.length n
    · rw [if_pos ⟨hl, by omega⟩]
      have e2 : (cutJ zs n j).2.1 = true := decide_eq_true hl
      unfold stS
      rw [e2, cond_true]
      simp only
      rw [et, hl, List.take_of_length_le (cnt_end hn)]
    · rw [if_neg (fun h => hl h.1)]
      have e2 : (cutJ zs n j).2.1 = false := decide_eq_false hl
      unfold stS
      rw [e2, cond_false]
      simp only
      rw [et]
theorem cut_run {zs : List Int} {n : Nat} (hn : 1 ≤ n) (hz : 1 ≤ zs.length) (hm : zs.length ≤ 65536) (D : List (List Int)) : run (D, [], 0) (cutV zs n) = some (D ++ [zs], [], 0) := by
  have := cut_run_take hn hm D _ (Nat.le_refl _)
  rw [List.take_of_length_le (by rw [cutV_len]; omega), if_pos ⟨rfl, cnt_pos hn hz⟩] at this
  exact this
end Go.Proofs.Yteomkmbaoaahoaa.Fr
