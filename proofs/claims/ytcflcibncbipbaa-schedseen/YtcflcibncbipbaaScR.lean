/-
  No path is told while another one's state is better; each fit path comes once in a round.
  Conditions: views that may be.
-/
import Derived.Test.YtcflcibncbipbaaScQ
namespace Go.Proofs.Ytcflcibncbipbaa.Sc
set_option linter.unusedVariables false

theorem mem_fit {vs : List Vw} (hv : ∀ v ∈ vs, okv v) {x : Int} : x ∈ fit vs ↔ ∃ k : Nat, k < vs.length ∧ x = k ∧ (rcl vs = 0 ∨ stt vs k = rcl vs) ∧ 0 < spc vs k ∧ shr vs k = true := by
  rw [← fit_eq hv]
  unfold rfit
  rw [mem_upto]
  constructor
  · rintro ⟨k, h1, h2, h3⟩
    simp only [fq, Bool.and_eq_true, Bool.or_eq_true, decide_eq_true_eq] at h3
    exact ⟨k, h1, h2, h3.1.1, h3.1.2, h3.2⟩
  · rintro ⟨k, h1, h2, h3, h4, h5⟩
    exact ⟨k, h1, h2, by simp only [fq, Bool.and_eq_true, Bool.or_eq_true, decide_eq_true_eq]; exact ⟨⟨h3, h4⟩, h5⟩⟩
theorem class_best {vs : List Vw} (hv : ∀ v ∈ vs, okv v) {k : Nat} (hk : k < vs.length) (h : rcl vs = 0 ∨ stt vs k = rcl vs) {i : Nat} (hi : i < vs.length) : stt vs k ≤ stt vs i := by
  obtain ⟨h1, h2⟩ := rb_le vs vs.length
  have ok := (ok_at hv hk).1
  have := h2 i hi
  unfold rcl at h
  by_cases hr : rb vs vs.length = 3
  · omega
  · rw [if_neg hr] at h
    rcases rb_some vs vs.length with e | ⟨j, hj, e⟩
    · exact absurd e hr
    · have := (ok_at hv hj).1
      omega
theorem next_best {kind last : Int} {vs : List Vw} (h : nB kind last vs = true) : (0 ≤ nV kind last vs ∧ nV kind last vs < vs.length) ∧ ¬ spc vs (nV kind last vs).toNat = 0 ∧ shr vs (nV kind last vs).toNat = true ∧ ∀ i : Nat, i < vs.length → stt vs (nV kind last vs).toNat ≤ stt vs i := by
  cases hL : oL kind last vs with
  | nil => rw [(n_nil hL).2] at h; cases h
  | cons x r =>
    rw [(n_cons hL).1]
    obtain ⟨hc, hm⟩ := oL_mem (x := x) (kind := kind) (last := last) (vs := vs) (by rw [hL]; exact .head _)
    obtain ⟨h8, hv⟩ := chk_0 hc
    obtain ⟨k, h1, rfl, h3, h4, h5⟩ := (mem_fit hv).1 hm
    rw [Int.toNat_natCast]
    exact ⟨⟨by omega, by omega⟩, by omega, h5, fun i hi => class_best hv h1 h3 hi⟩
theorem past_end {m : Int} {vs : List Vw} (hst : 1 ≤ stt vs m.toNat ∧ stt vs m.toNat ≤ 3) : ∃ s, (1 ≤ s ∧ s ≤ 3) ∧ Past m vs s ∧ (0 ≤ mst s m vs vs.length ∨ mst s m vs vs.length < 0 ∧ stt vs m.toNat = s) := by
  have p1 : Past m vs 1 := fun t t1 t2 => by omega
  by_cases a1 : 0 ≤ mst 1 m vs vs.length
  · exact ⟨1, by decide, p1, .inl a1⟩
  · by_cases b1 : stt vs m.toNat = 1
    · exact ⟨1, by decide, p1, .inr ⟨by omega, b1⟩⟩
    · have p2 : Past m vs 2 := past_next p1 (by omega) b1
      by_cases a2 : 0 ≤ mst 2 m vs vs.length
      · exact ⟨2, by decide, p2, .inl a2⟩
      · by_cases b2 : stt vs m.toNat = 2
        · exact ⟨2, by decide, p2, .inr ⟨by omega, b2⟩⟩
        · have p3 : Past m vs 3 := past_next p2 (by omega) b2
          by_cases a3 : 0 ≤ mst 3 m vs vs.length
          · exact ⟨3, by decide, p3, .inl a3⟩
          · exact ⟨3, by decide, p3, .inr ⟨by omega, by omega⟩⟩
theorem again_best {m : Int} {vs : List Vw} (h : agE m vs = 0) : (0 ≤ agV m vs ∧ agV m vs < vs.length) ∧ (0 ≤ m ∧ m < vs.length) ∧ ∀ i : Nat, i < vs.length → (i : Int) ≠ m → stt vs (agV m vs).toNat ≤ stt vs i ∧ (agV m vs = m → stt vs m.toNat < stt vs i) := by
  by_cases hc : chk vs = 0
  · by_cases hm : 0 ≤ m ∧ m ≤ (vs.length : Int) - 1
    · obtain ⟨h8, hv⟩ := chk_0 hc
      have hst := (ok_at hv (k := m.toNat) (by omega)).1
      rw [(ag_ok hc hm).2]
      obtain ⟨s, hs, hp, hcase⟩ := past_end hst
      have ge : ∀ i : Nat, i < vs.length → (i : Int) ≠ m → s ≤ stt vs i := fun i hi hne => by
        have oki := (ok_at hv hi).1
        by_cases e : s ≤ stt vs i
        · exact e
        · exact absurd ⟨rfl, hne⟩ (mst_no (stt vs i) m vs (hp _ oki.1 (by omega)).1 i hi)
      rcases hcase with h0 | ⟨h0, h1⟩
      · rw [past_hit hp hs hst h0]
        have hin := mst_in s m vs vs.length
        obtain ⟨⟨e1, e2⟩, _⟩ := mst_yes s m vs h0
        refine ⟨⟨h0, hin.2⟩, ⟨hm.1, by omega⟩, fun i hi hne => ⟨by rw [e1]; exact ge i hi hne, fun e => absurd e e2⟩⟩
      · rw [past_self hp hst h1 h0]
        refine ⟨⟨hm.1, by omega⟩, ⟨hm.1, by omega⟩, fun i hi hne => ?_⟩
        have g := ge i hi hne
        have : stt vs i ≠ s := fun e => mst_no s m vs h0 i hi ⟨e, hne⟩
        exact ⟨by omega, fun _ => by omega⟩
    · rw [(ag_out hc hm).1] at h
      cases h
  · rw [(ag_no hc m).1] at h
    exact absurd h hc
end Go.Proofs.Ytcflcibncbipbaa.Sc
