/-
  The document's ways and the code's come to the same: the better one, the class, the order, the path of a chunk that is sent anew.
  Conditions: views that may be.
-/
import Derived.Test.YtcflcibncbipbaaScJ
namespace Go.Proofs.Ytcflcibncbipbaa.Sc
set_option linter.unusedVariables false

theorem bet_lx {vs : List Vw} {kind last : Int} {i k : Nat} (hi : i < vs.length) (hk : k < vs.length) (h8 : vs.length ≤ 8) : bet kind last vs i k = lx (cst kind last vs) (i : Int) (k : Int) := by
  unfold bet lx cst
  rw [Int.toNat_natCast, Int.toNat_natCast]
  by_cases h1 : kind = 1
  · rw [if_pos h1, if_pos h1, if_pos h1]
    split
    · exact decide_eq_decide.2 (by omega)
    · exact decide_eq_decide.2 (by omega)
  · by_cases h2 : kind = 2
    · rw [if_neg h1, if_neg h1, if_neg h1, if_pos h2, if_pos h2, if_pos h2]
      split
      · exact decide_eq_decide.2 (by omega)
      · exact decide_eq_decide.2 (by omega)
    · rw [if_neg h1, if_neg h1, if_neg h1, if_neg h2, if_neg h2, if_neg h2]
      have key : ∀ (f : Int) (x : Nat), 0 ≤ f → f ≤ vs.length → x < vs.length → ((x : Int) - f + vs.length) % vs.length = if (x : Int) < f then (x : Int) - f + vs.length else (x : Int) - f := by
        intro f x f0 f1 hx
        split
        · exact Int.emod_eq_of_lt (by omega) (by omega)
        · rw [Int.add_emod_right]
          exact Int.emod_eq_of_lt (by omega) (by omega)
      unfold fst
      split
      · rename_i h
        rw [if_pos (by omega), key _ i (by omega) (by omega) hi, key _ k (by omega) (by omega) hk]
        obtain ⟨a, b, c⟩ := h
        refine decide_eq_decide.2 ?_
        have c' : ((i : Int) > last ∧ ¬ (k : Int) > last) ∨ (¬ (i : Int) > last ∧ (k : Int) > last) := by
          by_cases x : (i : Int) > last <;> by_cases y : (k : Int) > last
          · exact absurd (propext ⟨fun _ => y, fun _ => x⟩) c
          · exact .inl ⟨x, y⟩
          · exact .inr ⟨x, y⟩
          · exact absurd (propext ⟨fun h => absurd h x, fun h => absurd h y⟩) c
        rcases c' with ⟨x, y⟩ | ⟨x, y⟩
        · rw [if_neg (by omega), if_pos (by omega)]
          omega
        · rw [if_pos (by omega), if_neg (by omega)]
          omega
      · rename_i h
        refine decide_eq_decide.2 ?_
        split
        · rename_i hl
          rw [key _ i (by omega) (by omega) hi, key _ k (by omega) (by omega) hk]
          have c' : ((i : Int) > last ↔ (k : Int) > last) := by
            by_cases x : (i : Int) > last <;> by_cases y : (k : Int) > last
            · exact ⟨fun _ => y, fun _ => x⟩
            · exact absurd ⟨hl.1, by omega, fun e => y (e ▸ x)⟩ h
            · exact absurd ⟨hl.1, by omega, fun e => x (e ▸ y)⟩ h
            · exact ⟨fun h => absurd h x, fun h => absurd h y⟩
          by_cases x : (i : Int) > last
          · have y := c'.1 x
            rw [if_neg (by omega), if_neg (by omega)]
            omega
          · have y : ¬ (k : Int) > last := fun y => x (c'.2 y)
            rw [if_pos (by omega), if_pos (by omega)]
            omega
        · rw [key _ i (by omega) (by omega) hi, key _ k (by omega) (by omega) hk, if_neg (by omega), if_neg (by omega)]
          omega
/-! the class -/
theorem rb_le (vs : List Vw) : ∀ k, rb vs k ≤ 3 ∧ ∀ j, j < k → rb vs k ≤ stt vs j
  | 0 => ⟨by simp [rb], fun j h => by omega⟩
  | k + 1 => by
    obtain ⟨h1, h2⟩ := rb_le vs k
    unfold rb
    refine ⟨by omega, fun j hj => ?_⟩
    by_cases e : j = k
    · subst e; omega
    · have := h2 j (by omega)
      omega
theorem rb_some (vs : List Vw) : ∀ k, rb vs k = 3 ∨ ∃ j, j < k ∧ rb vs k = stt vs j
  | 0 => .inl rfl
  | k + 1 => by
    unfold rb
    by_cases h : rb vs k ≤ stt vs k
    · rw [show min (rb vs k) (stt vs k) = rb vs k by omega]
      exact (rb_some vs k).imp id fun ⟨j, h1, h2⟩ => ⟨j, by omega, h2⟩
    · exact .inr ⟨k, by omega, by omega⟩
theorem of_all (s : Int) (vs : List Vw) : of s all vs = upto (fun k => decide (stt vs k = s)) vs.length := upto_congr fun k _ => by unfold all; rw [Bool.and_true]
theorem of_nil {s : Int} {vs : List Vw} : of s all vs = [] ↔ ∀ k, k < vs.length → stt vs k ≠ s := by
  rw [of_all, upto_nil]
  exact ⟨fun h k hk e => (by have := h k hk; rw [decide_eq_true e] at this; cases this), fun h k hk => decide_eq_false (h k hk)⟩
/-- the class is the document's -/
theorem cls_eq {vs : List Vw} (hv : ∀ v ∈ vs, okv v) : cls 3 all vs = upto (fun k => decide (rcl vs = 0) || decide (stt vs k = rcl vs)) vs.length := by
  have ok : ∀ k, k < vs.length → 1 ≤ stt vs k ∧ stt vs k ≤ 3 := fun k hk => (ok_at hv hk).1
  obtain ⟨r1, r2⟩ := rb_le vs vs.length
  show cl3 all vs [] = _
  unfold cl3 cl2 cl1
  by_cases h1 : of 1 all vs = []
  · rw [stp_nil h1]
    rw [of_nil] at h1
    by_cases h2 : of 2 all vs = []
    · rw [stp_nil h2]
      rw [of_nil] at h2
      have h3 : ∀ k, k < vs.length → stt vs k = 3 := fun k hk => by
        have := ok k hk
        have := h1 k hk
        have := h2 k hk
        omega
      have hr : rb vs vs.length = 3 := by
        rcases rb_some vs vs.length with e | ⟨j, hj, e⟩
        · exact e
        · rw [e, h3 j hj]
      have hc : rcl vs = 0 := if_pos hr
      have e3 : stp 3 all vs [] = of 3 all vs := by
        by_cases e : of 3 all vs = []
        · rw [stp_nil e, e]
        · exact stp_some e
      rw [e3, of_all, hc]
      refine upto_congr fun k hk => ?_
      rw [decide_eq_true (h3 k hk)]
      rfl
    · rw [stp_some h2, of_all]
      have hex : ∃ k, k < vs.length ∧ stt vs k = 2 := by
        by_cases e : ∃ k, k < vs.length ∧ stt vs k = 2
        · exact e
        · exact absurd (of_nil.2 fun k hk he => e ⟨k, hk, he⟩) h2
      obtain ⟨k0, hk0, e0⟩ := hex
      have hr : rb vs vs.length = 2 := by
        have := r2 k0 hk0
        rcases rb_some vs vs.length with e | ⟨j, hj, e⟩
        · omega
        · have := ok j hj
          have := h1 j hj
          omega
      have hc : rcl vs = 2 := (if_neg (by omega)).trans hr
      rw [hc]
      exact upto_congr fun k hk => by simp
  · rw [stp_some h1, of_all]
    have hex : ∃ k, k < vs.length ∧ stt vs k = 1 := by
      by_cases e : ∃ k, k < vs.length ∧ stt vs k = 1
      · exact e
      · exact absurd (of_nil.2 fun k hk he => e ⟨k, hk, he⟩) h1
    obtain ⟨k0, hk0, e0⟩ := hex
    have hr : rb vs vs.length = 1 := by
      have := r2 k0 hk0
      rcases rb_some vs vs.length with e | ⟨j, hj, e⟩
      · omega
      · have := ok j hj
        omega
    have hc : rcl vs = 1 := (if_neg (by omega)).trans hr
    rw [hc]
    exact upto_congr fun k hk => by simp
theorem fit_eq {vs : List Vw} (hv : ∀ v ∈ vs, okv v) : rfit vs = fit vs := by
  unfold fit rfit
  rw [cls_eq hv, upto_filter]
  refine upto_congr fun k hk => ?_
  have := (ok_at hv hk).2.1
  unfold fq fitq
  rw [Bool.not_or, Bool.not_not, Bool.and_assoc]
  congr 1
  congr 1
  rw [← decide_not]
  exact decide_eq_decide.2 (by omega)
end Go.Proofs.Ytcflcibncbipbaa.Sc
