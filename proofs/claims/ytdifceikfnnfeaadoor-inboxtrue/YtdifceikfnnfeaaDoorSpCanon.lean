/-
  The set that any numbers make, in whatever order they come: mathematics alone.
  Conditions: no number is further than 65535 from the first cum.
-/
import Derived.Test.YtdifceikfnnfeaaDoorSpSet
namespace Go.Proofs.YtdifceikfnnfeaaDoor.Sp
set_option linter.unusedVariables false

/-- the set with cum c and distances L is that of the numbers at the distances ds from cum -/
def Canon (cum : Nat) (ds : List Nat) (c : Nat) (L : List Nat) : Prop :=
  ∃ m, m ≤ 65535 ∧ c = (cum + m) % 4294967296 ∧ (∀ d, d ≤ m → d = 0 ∨ d ∈ ds) ∧ ∀ e, 1 ≤ e → (e ∈ L ↔ e + m ∈ ds)

theorem canon_new (cum : Nat) (h : cum < 4294967296) : Canon cum [] cum [] := ⟨0, by omega, by omega, fun d hd => .inl (by omega), fun e he => by simp⟩

theorem up_ext : ∀ {L L' : List Nat}, Up L → Up L' → (∀ e, e ∈ L ↔ e ∈ L') → L = L'
  | [], [], _, _, _ => rfl
  | [], y :: ys, _, _, h => by have := (h y).2 (by simp); simp at this
  | x :: xs, [], _, _, h => by have := (h x).1 (by simp); simp at this
  | x :: xs, y :: ys, h1, h2, h => by
    obtain ⟨a1, a2⟩ := List.pairwise_cons.1 h1
    obtain ⟨b1, b2⟩ := List.pairwise_cons.1 h2
    have hxy : x = y := by
      rcases List.mem_cons.1 ((h x).1 (by simp)) with e | e
      · exact e
      · rcases List.mem_cons.1 ((h y).2 (by simp)) with f | f
        · exact f.symm
        · have := b1 x e; have := a1 y f; omega
    subst hxy
    refine congrArg _ (up_ext a2 b2 fun e => ⟨fun he => ?_, fun he => ?_⟩)
    · rcases List.mem_cons.1 ((h e).1 (by simp [he])) with f | f
      · subst f; exact absurd (a1 _ he) (by omega)
      · exact f
    · rcases List.mem_cons.1 ((h e).2 (by simp [he])) with f | f
      · subst f; exact absurd (b1 _ he) (by omega)
      · exact f

theorem canon_same {cum : Nat} {ds ds' : List Nat} {c c' : Nat} {L L' : List Nat} (h : Canon cum ds c L) (h' : Canon cum ds' c' L') (hg : Good 2 L) (hg' : Good 2 L') (hd : ∀ d, d ∈ ds ↔ d ∈ ds') : c = c' ∧ L = L' := by
  obtain ⟨m, m1, m2, m3, m4⟩ := h
  obtain ⟨n, n1, n2, n3, n4⟩ := h'
  have hmn : m = n := by
    rcases Nat.lt_trichotomy m n with hlt | e | hlt
    · have := (m4 1 (Nat.le_refl _)).2 (by rw [hd]; exact (n3 (1 + m) (by omega)).resolve_left (by omega))
      have := hg.2 1 this; omega
    · exact e
    · have := (n4 1 (Nat.le_refl _)).2 (by rw [← hd]; exact (m3 (1 + n) (by omega)).resolve_left (by omega))
      have := hg'.2 1 this; omega
  subst hmn
  refine ⟨by rw [m2, n2], up_ext hg.1 hg'.1 fun e => ?_⟩
  by_cases he : 1 ≤ e
  · rw [m4 e he, n4 e he, hd]
  · exact ⟨fun h => absurd (hg.2 e h) (by omega), fun h => absurd (hg'.2 e h) (by omega)⟩

theorem mem_back {L : List Nat} (h : Good 1 L) (n : Nat) (hn : n ≤ lead L 0) (e : Nat) (he : 1 ≤ e) : e ∈ back n L ↔ e + n ∈ L := by
  have hd := lead_drop h n hn
  constructor
  · intro hm
    obtain ⟨x, hx, hxe⟩ := List.mem_map.1 hm
    have := hd x hx
    rw [show e + n = x by omega]; exact List.mem_of_mem_drop hx
  · intro hm
    refine List.mem_map.2 ⟨e + n, ?_, by omega⟩
    rw [← List.take_append_drop n L] at hm
    rcases List.mem_append.1 hm with hm | hm
    · obtain ⟨k, hk⟩ := List.mem_iff_getElem?.1 hm
      have hkn : k < n := by
        have := (List.getElem?_eq_some_iff.1 hk).1
        rw [List.length_take] at this; omega
      rw [List.getElem?_take, if_pos hkn, lead_at L 0 k (by omega)] at hk
      simp at hk; omega
    · exact hm

/-- one number more -/
theorem canon_add {cum : Nat} {ds : List Nat} {c : Nat} {L : List Nat} (h : Canon cum ds c L) (hg : Good 2 L) (hds : ∀ d ∈ ds, d ≤ 65535) (d e : Nat) (hd : d ≤ 65535) (he : 1 ≤ e) (heL : e ∉ L) (hce : (cum + d) % 4294967296 = (c + e) % 4294967296) (he2 : e ≤ 65535) :
    Canon cum (ds ++ [d]) ((c + addN e L) % 4294967296) (addL e L) := by
  obtain ⟨m, m1, m2, m3, m4⟩ := h
  have hem : e + m = d := by omega
  have hg1 := good_ins hg heL ⟨he, he2⟩ (by decide)
  have hle := lead_le (ins e L) 0
  have hin : ∀ y, 1 ≤ y → y ∈ ins e L → y + m ∈ ds ++ [d] := fun y hy hm => by
    rcases (mem_ins e y L).1 hm with rfl | hm
    · rw [hem]; simp
    · exact List.mem_append_left _ ((m4 y hy).1 hm)
  have hlead : ∀ y, 1 ≤ y → y ≤ addN e L → y ∈ ins e L := fun y h1 h2 => by
    have := lead_at (ins e L) 0 (y - 1) (by unfold addN at h2; omega)
    rw [show 0 + (y - 1) + 1 = y by omega] at this
    exact List.mem_of_getElem? this
  have hall : ∀ x ∈ ds ++ [d], x ≤ 65535 := fun x hx => by
    rcases List.mem_append.1 hx with hx | hx
    · exact hds x hx
    · simp at hx; omega
  refine ⟨m + addN e L, ?_, by omega, fun x hx => ?_, fun y hy => ?_⟩
  · by_cases h0 : addN e L = 0
    · omega
    · have := hall _ (hin (addN e L) (by omega) (hlead _ (by omega) (Nat.le_refl _)))
      omega
  · by_cases hxm : x ≤ m
    · rcases m3 x hxm with h | h
      · exact .inl h
      · exact .inr (List.mem_append_left _ h)
    · have := hin (x - m) (by omega) (hlead _ (by omega) (by omega))
      rw [show x - m + m = x by omega] at this
      exact .inr this
  · unfold addL
    rw [mem_back hg1 (addN e L) (Nat.le_refl _) y hy]
    rw [mem_ins]
    constructor
    · rintro (h | h)
      · rw [show y + (m + addN e L) = d by omega]; simp
      · have := (m4 (y + addN e L) (by omega)).1 h
        rw [show y + (m + addN e L) = y + addN e L + m by omega]
        exact List.mem_append_left _ this
    · intro h
      rcases List.mem_append.1 h with h | h
      · right; rw [m4 _ (by omega)]; rw [show y + addN e L + m = y + (m + addN e L) by omega]; exact h
      · left; simp at h; omega
theorem canon_in {cum : Nat} {ds : List Nat} {c : Nat} {L : List Nat} (h : Canon cum ds c L) (hg : Good 2 L) (hcum : cum < 4294967296) (d : Nat) (hd : d ≤ 65535) (hin : isIn c L ((cum + d) % 4294967296) = true) : Canon cum (ds ++ [d]) c L := by
  obtain ⟨m, m1, m2, m3, m4⟩ := h
  have hdin : d = 0 ∨ d ∈ ds := by
    by_cases hdm : d ≤ m
    · exact m3 d hdm
    · right
      have hdist : Ser.dist 4294967296 (c : Int) (((cum + d) % 4294967296 : Nat) : Int) = ((d - m : Nat) : Int) := by
        unfold Ser.dist
        split <;> omega
      unfold isIn at hin
      rw [hdist, decide_eq_false (by omega), Bool.false_or, Int.toNat_natCast] at hin
      have := (m4 (d - m) (by omega)).1 (of_decide_eq_true hin)
      rw [show d - m + m = d by omega] at this
      exact this
  refine ⟨m, m1, m2, fun x hx => (m3 x hx).imp id (List.mem_append_left _), fun y hy => ?_⟩
  rw [m4 y hy]
  constructor
  · exact List.mem_append_left _
  · intro hh
    rcases List.mem_append.1 hh with hh | hh
    · exact hh
    · simp at hh
      rcases hdin with h0 | h0
      · omega
      · rw [hh]; exact h0
theorem canon_dist {cum : Nat} {ds : List Nat} {c : Nat} {L : List Nat} (h : Canon cum ds c L) (hcum : cum < 4294967296) (d : Nat) (hd : d ≤ 65535) : Ser.dist 4294967296 (c : Int) (((cum + d) % 4294967296 : Nat) : Int) ≤ 65535 := by
  obtain ⟨m, m1, m2, m3, m4⟩ := h
  unfold Ser.dist
  split <;> omega
end Go.Proofs.YtdifceikfnnfeaaDoor.Sp
