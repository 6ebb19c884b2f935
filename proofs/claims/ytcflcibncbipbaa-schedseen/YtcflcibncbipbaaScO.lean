/-
  The most space among the paths of one state: what it comes to.
  Conditions: as at each lemma.
-/
import Derived.Test.YtcflcibncbipbaaScH
namespace Go.Proofs.Ytcflcibncbipbaa.Sc
set_option linter.unusedVariables false

/-- the path with the most space among those of a state but one; below 0: none -/
def mst (s m : Int) (vs : List Vw) : Nat → Int
  | 0 => -1
  | k + 1 => if (stt vs k = s ∧ (k : Int) ≠ m) ∧ (mst s m vs k < 0 ∨ spc vs (mst s m vs k).toNat < spc vs k) then (k : Int) else mst s m vs k
theorem mst_keep {s m : Int} {vs : List Vw} {k : Nat} (h : ¬ ((stt vs k = s ∧ (k : Int) ≠ m) ∧ (mst s m vs k < 0 ∨ spc vs (mst s m vs k).toNat < spc vs k))) : mst s m vs (k + 1) = mst s m vs k := if_neg h
theorem mst_take {s m : Int} {vs : List Vw} {k : Nat} (h : (stt vs k = s ∧ (k : Int) ≠ m) ∧ (mst s m vs k < 0 ∨ spc vs (mst s m vs k).toNat < spc vs k)) : mst s m vs (k + 1) = k := if_pos h
theorem mst_in (s m : Int) (vs : List Vw) : ∀ k, -1 ≤ mst s m vs k ∧ mst s m vs k < k
  | 0 => by simp [mst]
  | k + 1 => by
    have := mst_in s m vs k
    unfold mst
    split <;> omega
theorem mst_no (s m : Int) (vs : List Vw) : ∀ {k : Nat}, mst s m vs k < 0 → ∀ j, j < k → ¬ (stt vs j = s ∧ (j : Int) ≠ m)
  | 0, _, j, hj => by omega
  | k + 1, h, j, hj => by
    unfold mst at h
    split at h
    · omega
    · rename_i hc
      by_cases e : j = k
      · subst e
        intro hx
        exact hc ⟨hx, .inl h⟩
      · exact mst_no s m vs h j (by omega)
theorem mst_yes (s m : Int) (vs : List Vw) : ∀ {k : Nat}, 0 ≤ mst s m vs k → (stt vs (mst s m vs k).toNat = s ∧ mst s m vs k ≠ m) ∧ ∀ j : Nat, j < k → stt vs j = s → (j : Int) ≠ m → (j : Int) ≠ mst s m vs k → spc vs j < spc vs (mst s m vs k).toNat ∨ spc vs j = spc vs (mst s m vs k).toNat ∧ mst s m vs k < j
  | 0, h => by simp [mst] at h
  | k + 1, h => by
    unfold mst at h ⊢
    by_cases hc : (stt vs k = s ∧ (k : Int) ≠ m) ∧ (mst s m vs k < 0 ∨ spc vs (mst s m vs k).toNat < spc vs k)
    · rw [if_pos hc] at h ⊢
      rw [Int.toNat_natCast]
      refine ⟨hc.1, fun j hj hs hm hne => ?_⟩
      have hjk : j < k := by omega
      rcases hc.2 with h0 | h0
      · exact absurd ⟨hs, hm⟩ (mst_no s m vs h0 j hjk)
      · by_cases hb : mst s m vs k < 0
        · exact absurd ⟨hs, hm⟩ (mst_no s m vs hb j hjk)
        · by_cases e : (j : Int) = mst s m vs k
          · rw [← e, Int.toNat_natCast] at h0
            exact .inl h0
          · have := (mst_yes s m vs (k := k) (by omega)).2 j hjk hs hm e
            omega
    · rw [if_neg hc] at h ⊢
      obtain ⟨h1, h2⟩ := mst_yes s m vs h
      refine ⟨h1, fun j hj hs hm hne => ?_⟩
      by_cases e : j = k
      · subst e
        have hn : ¬ (mst s m vs j < 0 ∨ spc vs (mst s m vs j).toNat < spc vs j) := fun hx => hc ⟨⟨hs, hm⟩, hx⟩
        have := mst_in s m vs j
        omega
      · exact h2 j (by omega) hs hm hne
theorem mem_of {s m : Int} {vs : List Vw} {x : Int} : x ∈ of s (other_ m) vs ↔ ∃ k : Nat, k < vs.length ∧ x = k ∧ stt vs k = s ∧ (k : Int) ≠ m := by
  unfold of
  rw [mem_upto]
  constructor
  · rintro ⟨k, h1, h2, h3⟩
    simp only [other_, Bool.and_eq_true, decide_eq_true_eq] at h3
    exact ⟨k, h1, h2, h3.1, h3.2⟩
  · rintro ⟨k, h1, h2, h3, h4⟩
    exact ⟨k, h1, h2, by simp only [other_, Bool.and_eq_true, decide_eq_true_eq]; exact ⟨h3, h4⟩⟩
theorem of_mst_nil {s m : Int} {vs : List Vw} (h : mst s m vs vs.length < 0) : of s (other_ m) vs = [] := by
  cases e : of s (other_ m) vs with
  | nil => rfl
  | cons x r =>
    have : x ∈ of s (other_ m) vs := by rw [e]; exact .head _
    obtain ⟨k, h1, _, h3, h4⟩ := mem_of.1 this
    exact absurd ⟨h3, h4⟩ (mst_no s m vs h k h1)
theorem cst2 (m : Int) (vs : List Vw) (k : Nat) : cst 2 m vs k = - spc vs k := by
  unfold cst
  rw [if_neg (by decide), if_pos rfl]
theorem head_mst {s m : Int} {vs : List Vw} (h : 0 ≤ mst s m vs vs.length) : of s (other_ m) vs ≠ [] ∧ (srt (lx (cst 2 m vs)) (of s (other_ m) vs)).headD m = mst s m vs vs.length := by
  obtain ⟨⟨h1, h2⟩, h3⟩ := mst_yes s m vs h
  have hin := mst_in s m vs vs.length
  have hm : mst s m vs vs.length ∈ of s (other_ m) vs := mem_of.2 ⟨(mst s m vs vs.length).toNat, by omega, by omega, h1, by omega⟩
  refine ⟨fun e => (by rw [e] at hm; cases hm), ?_⟩
  have hh := (srt_head (cst 2 m vs) (of_wf (s := s) (q := other_ m) (vs := vs)).1 (x := mst s m vs vs.length)).2 ⟨hm, fun y hy hne => by
    obtain ⟨k, k1, rfl, k3, k4⟩ := mem_of.1 hy
    have := h3 k k1 k3 k4 hne
    unfold lx
    rw [cst2, cst2, Int.toNat_natCast]
    refine decide_eq_true ?_
    omega⟩
  cases e : srt (lx (cst 2 m vs)) (of s (other_ m) vs) with
  | nil => rw [e] at hh; cases hh
  | cons x r =>
    rw [e] at hh
    simpa using hh
theorem cls_hit {w s : Int} {q : Nat → Bool} {vs : List Vw} (hw : 1 ≤ s ∧ s ≤ w ∧ w ≤ 3) (hn : ∀ t, 1 ≤ t → t < s → of t q vs = []) (h : of s q vs ≠ []) : cls w q vs = of s q vs := by
  unfold cls
  rcases show s = 1 ∨ s = 2 ∨ s = 3 by omega with rfl | rfl | rfl
  · rcases show w = 1 ∨ w = 2 ∨ w = 3 by omega with rfl | rfl | rfl <;> simp only [cl3, cl2, cl1, stp_some h, if_pos] <;> simp
  · have h1 := hn 1 (by decide) (by decide)
    rcases show w = 2 ∨ w = 3 by omega with rfl | rfl <;> simp only [cl3, cl2, cl1, stp_some h, stp_nil h1, if_pos] <;> simp
  · have h1 := hn 1 (by decide) (by decide)
    have h2 := hn 2 (by decide) (by decide)
    obtain rfl : w = 3 := by omega
    simp only [cl3, cl2, cl1, stp_some h, stp_nil h1, stp_nil h2, if_pos]
theorem cls_none {w : Int} {q : Nat → Bool} {vs : List Vw} (hw : 1 ≤ w ∧ w ≤ 3) (hn : ∀ t, 1 ≤ t → t ≤ w → of t q vs = []) : cls w q vs = [] := by
  unfold cls
  have h1 := hn 1 (by decide) (by omega)
  rcases show w = 1 ∨ w = 2 ∨ w = 3 by omega with rfl | rfl | rfl
  · simp [cl1, stp_nil h1]
  · have h2 := hn 2 (by decide) (by omega)
    simp [cl1, cl2, stp_nil h1, stp_nil h2]
  · have h2 := hn 2 (by decide) (by omega)
    have h3 := hn 3 (by decide) (by omega)
    simp [cl1, cl2, cl3, stp_nil h1, stp_nil h2, stp_nil h3]
/-- what the document's loop has left behind -/
def Past (m : Int) (vs : List Vw) (s : Int) : Prop := ∀ t, 1 ≤ t → t < s → mst t m vs vs.length < 0 ∧ stt vs m.toNat ≠ t
theorem past_hit {m s : Int} {vs : List Vw} (hp : Past m vs s) (hs : 1 ≤ s ∧ s ≤ 3) (hst : 1 ≤ stt vs m.toNat ∧ stt vs m.toNat ≤ 3) (h : 0 ≤ mst s m vs vs.length) : (srt (lx (cst 2 m vs)) (agL m vs)).headD m = mst s m vs vs.length := by
  obtain ⟨h1, h2⟩ := head_mst h
  have hle : s ≤ stt vs m.toNat := by
    by_cases e : s ≤ stt vs m.toNat
    · exact e
    · exact absurd rfl (hp _ hst.1 (by omega)).2
  unfold agL
  rw [cls_hit ⟨hs.1, hle, hst.2⟩ (fun t t1 t2 => of_mst_nil (hp t t1 t2).1) h1]
  exact h2
theorem past_self {m s : Int} {vs : List Vw} (hp : Past m vs s) (hst : 1 ≤ stt vs m.toNat ∧ stt vs m.toNat ≤ 3) (hs : stt vs m.toNat = s) (h : mst s m vs vs.length < 0) : (srt (lx (cst 2 m vs)) (agL m vs)).headD m = m := by
  unfold agL
  rw [cls_none hst (fun t t1 t2 => by
    by_cases e : t = s
    · subst e; exact of_mst_nil h
    · exact of_mst_nil (hp t t1 (by omega)).1)]
  rfl
theorem past_next {m s : Int} {vs : List Vw} (hp : Past m vs s) (h1 : mst s m vs vs.length < 0) (h2 : stt vs m.toNat ≠ s) : Past m vs (s + 1) := fun t t1 t2 => by
  by_cases e : t = s
  · subst e; exact ⟨h1, h2⟩
  · exact hp t t1 (by omega)
end Go.Proofs.Ytcflcibncbipbaa.Sc
