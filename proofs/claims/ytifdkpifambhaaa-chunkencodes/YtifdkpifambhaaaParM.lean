/-
  A list's bytes are read as that list; a row that is a list is written with no more bytes, and fewer than four less.
  Conditions: the types and bytes lie within their kinds, the Bodies are not too long, the list is not too long.
-/
import Derived.Test.YtifdkpifambhaaaParL
namespace Go.Proofs.Ytifdkpifambhaaa.Par
open Go.ChangeShapes Go.WideShapes Go.ChangeAt Go.RowKit
set_option linter.unusedVariables false

/-- what may stand in a list -/
def Fit (x : Int × List Int) : Prop := (0 ≤ x.1 ∧ x.1 < 65536) ∧ Bytes x.2 ∧ x.2.length ≤ 65531
theorem foldl_pre (m : List (Int × List Int)) : ∀ b : List Int, ∃ t, m.foldl put b = b ++ t := by
  induction m with
  | nil => intro b; exact ⟨[], by simp⟩
  | cons x m ih =>
    intro b
    obtain ⟨t, ht⟩ := ih (put b x)
    refine ⟨List.replicate (fill4 b.length - b.length) 0 ++ head x ++ x.2 ++ t, ?_⟩
    rw [List.foldl_cons, ht]
    unfold put pad
    simp only [List.append_assoc]
theorem enc_pre (l : List (Int × List Int)) (k : Nat) : ∃ t, enc l = enc (l.take k) ++ t := by
  obtain ⟨t, ht⟩ := foldl_pre (l.drop k) (enc (l.take k))
  refine ⟨t, ?_⟩
  rw [← ht]
  unfold enc
  rw [← List.foldl_append, List.take_append_drop]
theorem enc_at (l : List (Int × List Int)) (k : Nat) (x : Int × List Int) (h : l[k]? = some x) : ∃ t, enc l = pad (enc (l.take k)) ++ (head x ++ (x.2 ++ t)) := by
  obtain ⟨t, ht⟩ := enc_pre l (k + 1)
  refine ⟨t, ?_⟩
  rw [ht, List.take_add_one, h]
  unfold enc
  simp [put]
theorem fill4_add (q m : Nat) : fill4 (fill4 q + m) = fill4 q + fill4 m := by unfold fill4; omega
theorem getD_app (xs ys : List Int) (i : Nat) : (xs ++ ys).getD (xs.length + i) 0 = ys.getD i 0 := by
  rw [List.getD_eq_getElem?_getD, List.getD_eq_getElem?_getD, List.getElem?_append_right (by omega)]
  congr 2
  omega
theorem drop_app (xs ys : List Int) (i : Nat) : (xs ++ ys).drop (xs.length + i) = ys.drop i := by
  rw [List.drop_append, List.drop_of_length_le (by omega), List.nil_append]
  congr 1
  omega
/-- at the place where the parameter number k stands -/
theorem enc_item (l : List (Int × List Int)) (k : Nat) (x : Int × List Int) (h : l[k]? = some x) (hx : Fit x) (hp : pos (enc l) k = fill4 (enc (l.take k)).length) :
    ln (enc l) (pos (enc l) k) = x.2.length + 4 ∧ item (enc l) k = x ∧ pos (enc l) k + (x.2.length + 4) ≤ (enc l).length := by
  obtain ⟨t, ht⟩ := enc_at l k x h
  obtain ⟨hx1, hx2, hx3⟩ := hx
  have hpl := pad_len (enc (l.take k))
  have e0 : ∀ i, (enc l).getD (pos (enc l) k + i) 0 = (head x ++ (x.2 ++ t)).getD i 0 := fun i => by rw [hp, ← hpl, ht, getD_app]
  have l1 : ln (enc l) (pos (enc l) k) = x.2.length + 4 := by
    unfold ln
    rw [e0 2, e0 3]
    show (((x.2.length + 4 : Nat) : Int) / 256 % 256 * 256 + ((x.2.length + 4 : Nat) : Int) % 256).toNat = _
    omega
  refine ⟨l1, ?_, ?_⟩
  · unfold item
    rw [l1]
    have e1 := e0 0
    rw [Nat.add_zero] at e1
    rw [e1, e0 1]
    have e4 : (enc l).drop (pos (enc l) k + 4) = x.2 ++ t := by
      rw [hp, ← hpl, ht, drop_app]
      rfl
    rw [e4]
    have e5 : (x.2 ++ t).take (x.2.length + 4 - 4) = x.2 := by rw [Nat.add_sub_cancel]; exact List.take_left
    rw [e5]
    have e6 : x.1 / 256 * 256 + x.1 % 256 = x.1 := by omega
    show (x.1 / 256 * 256 + x.1 % 256, x.2) = x
    rw [e6]
  · rw [hp, ← hpl, ht, List.length_append, List.length_append, List.length_append]
    show _ ≤ _ + (4 + (_ + _))
    omega
theorem enc_pos (l : List (Int × List Int)) (hl : ∀ x ∈ l, Fit x) : ∀ k, k ≤ l.length → pos (enc l) k = fill4 (enc (l.take k)).length
  | 0, _ => by rw [List.take_zero]; rfl
  | k + 1, h => by
    have ih := enc_pos l hl k (by omega)
    obtain ⟨x, hx⟩ : ∃ x, l[k]? = some x := ⟨_, List.getElem?_eq_getElem (by omega)⟩
    obtain ⟨h1, h2, h3⟩ := enc_item l k x hx (hl x (List.mem_of_getElem? hx)) ih
    show pos (enc l) k + fill4 (ln (enc l) (pos (enc l) k)) = _
    have e : enc (l.take (k + 1)) = put (enc (l.take k)) x := by
      rw [List.take_add_one, hx]
      unfold enc
      simp
    rw [h1, ih, e, put_len, fill4_add]
theorem enc_good (l : List (Int × List Int)) (hl : ∀ x ∈ l, Fit x) (hn : l.length ≤ 256) (k : Nat) (hk : k < l.length) : good (enc l) k ∧ l[k]? = some (item (enc l) k) := by
  obtain ⟨x, hx⟩ : ∃ x, l[k]? = some x := ⟨_, List.getElem?_eq_getElem (by omega)⟩
  obtain ⟨h1, h2, h3⟩ := enc_item l k x hx (hl x (List.mem_of_getElem? hx)) (enc_pos l hl k (by omega))
  refine ⟨⟨by omega, by omega, by omega, by omega⟩, ?_⟩
  rw [h2]
  exact hx
/-- there and back -/
theorem enc_out (l : List (Int × List Int)) (hl : ∀ x ∈ l, Fit x) (hn : l.length ≤ 256) : Out (enc l) l 0 0 := by
  refine ⟨l.length, hn, fun j hj => (enc_good l hl hn j hj).1, .inl ⟨?_, ?_, rfl, rfl⟩⟩
  · rw [enc_pos l hl l.length (Nat.le_refl _), List.take_length]
    exact (fill4_le _).1
  · apply List.ext_getElem?
    intro i
    unfold items
    rcases Nat.lt_or_ge i l.length with h | h
    · rw [(enc_good l hl hn i h).2, List.getElem?_map, List.getElem?_range h]
      rfl
    · rw [List.getElem?_eq_none h, List.getElem?_eq_none (by simpa using h)]
theorem fits_of {base : Nat} {w : World} {ps : List Prm} (h : ∀ p ∈ ps, One base w p) (hL : ¬ Long ps) : ∀ x ∈ ps.map val, Fit x := by
  intro x hx
  obtain ⟨p, hp, rfl⟩ := List.mem_map.1 hx
  refine ⟨(h p hp).1, (h p hp).2.1.2.1, ?_⟩
  show p.2.2.2.2.length ≤ 65531
  rw [(h p hp).2.1.1]
  rcases Nat.lt_or_ge 65531 p.2.2.1 with hl | hl
  · exact absurd ⟨p, hp, hl⟩ hL
  · exact hl

theorem item_fit (zs : List Int) (hz : Bytes zs) (k : Nat) : Fit (item zs k) := by
  have h1 := at_bound zs hz (pos zs k)
  have h2 := at_bound zs hz (pos zs k + 1)
  have h3 := (ln_eq zs hz (pos zs k)).2
  refine ⟨by unfold item; simp only; omega, fun x hx => hz x (List.mem_of_mem_drop (List.mem_of_mem_take hx)), ?_⟩
  unfold item
  simp only [List.length_take]
  omega
theorem items_fit (zs : List Int) (hz : Bytes zs) (k : Nat) : ∀ x ∈ items zs k, Fit x := by
  intro x hx
  obtain ⟨j, _, rfl⟩ := List.mem_map.1 hx
  exact item_fit zs hz j
theorem item_len (zs : List Int) (k : Nat) (h : good zs k) : (item zs k).2.length + 4 = ln zs (pos zs k) := by
  obtain ⟨_, h1, h2, h3⟩ := h
  unfold item
  simp only [List.length_take, List.length_drop]
  omega
theorem enc_items (zs : List Int) (k : Nat) : enc (items zs (k + 1)) = put (enc (items zs k)) (item zs k) := by
  rw [items_succ]
  unfold enc
  rw [List.foldl_append]
  rfl
theorem again_pos (zs : List Int) : ∀ k, (∀ j, j < k → good zs j) → fill4 (enc (items zs k)).length = pos zs k
  | 0, _ => by simp [items, enc, fill4, pos]
  | k + 1, h => by
    have ih := again_pos zs k (fun j hj => h j (by omega))
    have hl := item_len zs k (h k (by omega))
    rw [enc_items, put_len, hl, fill4_add, ih]
    rfl
theorem again_len (zs : List Int) (k : Nat) (h : ∀ j, j < k → good zs j) (he : zs.length ≤ pos zs k) : (enc (items zs k)).length ≤ zs.length ∧ zs.length < (enc (items zs k)).length + 4 := by
  cases k with
  | zero =>
    have h0 : zs.length ≤ 0 := he
    have e : (enc (items zs 0)).length = 0 := by simp [items, enc]
    omega
  | succ k =>
    have ih := again_pos zs k (fun j hj => h j (by omega))
    have hg := h k (by omega)
    have hl := item_len zs k hg
    have h4 := (fill4_le (ln zs (pos zs k))).2
    have he' : zs.length ≤ pos zs k + fill4 (ln zs (pos zs k)) := he
    have hg4 := hg.2.2.2
    rw [enc_items, put_len, hl, ih]
    omega
/-- what a row is that is a list -/
theorem Out.list {zs : List Int} {l : List (Int × List Int)} {p : Nat} (hz : Bytes zs) (h : Out zs l p 0) : (∀ x ∈ l, Fit x) ∧ l.length ≤ 256 ∧ (enc l).length ≤ zs.length ∧ zs.length < (enc l).length + 4 := by
  obtain ⟨k, hk, hg, ⟨h1, rfl, _, _⟩ | ⟨_, _, _, _, h5⟩⟩ := h
  · obtain ⟨a1, a2⟩ := again_len zs k hg h1
    exact ⟨items_fit zs hz k, by rw [items_len]; exact hk, a1, a2⟩
  · unfold errOf at h5
    split at h5 <;> omega
theorem Out.none {zs : List Int} {l : List (Int × List Int)} {p : Nat} {e : Int} (h : Out zs l p e) (he : ¬ e = 0) : l = [] := by
  obtain ⟨k, hk, hg, ⟨_, _, _, h4⟩ | ⟨_, _, h3, _⟩⟩ := h
  · exact absurd h4 he
  · exact h3
theorem code_ok {base : Nat} {w : World} {pa : Option Addr} {n : Nat} {ps : List Prm} (h : Prms base w pa n ps) (hf : ∀ x ∈ ps.map val, Fit x) (hn : (ps.map val).length ≤ 256) {c : Int} (hc : code ps c) : c = 0 := by
  rw [List.length_map] at hn
  rcases hc with ⟨h1, _⟩ | ⟨_, ⟨p, hp, hl⟩, _⟩ | ⟨_, _, h1⟩
  · omega
  · have h2 := (hf (val p) (List.mem_map.2 ⟨p, hp, rfl⟩)).2.2
    have h3 := (h.2.2.1 p hp).2.1.1
    have h4 : p.2.2.2.2.length ≤ 65531 := h2
    omega
  · exact h1
end Go.Proofs.Ytifdkpifambhaaa.Par
