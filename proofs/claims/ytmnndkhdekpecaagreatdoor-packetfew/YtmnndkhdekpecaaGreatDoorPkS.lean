/-
  A region that draws its order, with steps one behind the other.
  Conditions: as at each lemma.
-/
import Derived.Test.YtmnndkhdekpecaaGreatDoorPkC
namespace Go.Proofs.YtmnndkhdekpecaaGreatDoor.Pkt
set_option linter.unusedVariables false

/-- steps, one behind the other -/
def StM {X : Type} (cs : List Nat) (A : Nat → X → World → Prop) (x : X) (L : Nat → Bool) (w : World) : Prop :=
  ∃ k, k ≤ cs.length ∧ (∀ (j c : Nat), cs[j]? = some c → (L c = true ↔ j < k)) ∧ A k x w
section
variable {X : Type} {cs : List Nat} {A : Nat → X → World → Prop} {x : X} {L L' : Nat → Bool} {w : World}
theorem StM.ext {n : Nat} (hc : cs.all (fun c => decide (c < n)) = true) (hL : ∀ j, j < n → L j = L' j) (h : StM cs A x L w) : StM cs A x L' w := by
  obtain ⟨k, h1, h2, h3⟩ := h
  refine ⟨k, h1, fun j c hj => ?_, h3⟩
  rw [← hL c (of_decide_eq_true (List.all_eq_true.1 hc c (List.mem_of_getElem? hj)))]
  exact h2 j c hj
theorem StM.keep {i : Nat} (hi : cs.contains i = false) (h : StM cs A x L w) : StM cs A x (Ord.upd L i) w := by
  obtain ⟨k, h1, h2, h3⟩ := h
  refine ⟨k, h1, fun j c hj => ?_, h3⟩
  have hne : decide (c = i) = false := decide_eq_false fun e => by
    subst e
    rw [← Bool.not_eq_true, List.contains_iff_mem] at hi
    exact hi (List.mem_of_getElem? hj)
  rw [upd_ne L hne]
  exact h2 j c hj
theorem StM.stage {i k : Nat} (hk : cs[k]? = some i) (hi : L i = false) (hp : k = 0 ∨ ∃ c, cs[k - 1]? = some c ∧ L c = true) (h : StM cs A x L w) : k ≤ cs.length ∧ (∀ (j c : Nat), cs[j]? = some c → (L c = true ↔ j < k)) ∧ A k x w := by
  obtain ⟨k', h1, h2, h3⟩ := h
  have a1 : ¬ k < k' := fun h => by rw [(h2 k i hk).2 h] at hi; cases hi
  have a2 : k ≤ k' := by
    rcases hp with rfl | ⟨c, hc, hl⟩
    · exact Nat.zero_le _
    · have := (h2 (k - 1) c hc).1 hl
      omega
  obtain rfl : k' = k := by omega
  exact ⟨h1, h2, h3⟩
theorem StM.at {i k : Nat} (h : StM cs A x L w) (hk : cs[k]? = some i) (hi : L i = false) (hp : k = 0 ∨ ∃ c, cs[k - 1]? = some c ∧ L c = true) : A k x w := (h.stage hk hi hp).2.2
theorem StM.next {i k : Nat} {x' : X} {w' : World} (h : StM cs A x L w) (hk : cs[k]? = some i) (hn : cs.Nodup) (hi : L i = false) (hp : k = 0 ∨ ∃ c, cs[k - 1]? = some c ∧ L c = true) (hA : A (k + 1) x' w') : StM cs A x' (Ord.upd L i) w' := by
  obtain ⟨h1, h2, _⟩ := h.stage hk hi hp
  have hkl := (List.getElem?_eq_some_iff.1 hk).1
  refine ⟨k + 1, by omega, fun j c hj => ?_, hA⟩
  by_cases e : c = i
  · subst e
    have hjk : j = k := by
      have hjl := (List.getElem?_eq_some_iff.1 hj).1
      exact (List.getElem?_inj hjl hn).1 (hj.trans hk.symm)
    subst hjk
    rw [upd_same]
    exact ⟨fun _ => by omega, fun _ => rfl⟩
  · rw [upd_ne L (decide_eq_false e), h2 j c hj]
    have hjk : j ≠ k := fun e2 => by
      subst e2
      rw [hk] at hj
      exact e (Option.some.inj hj).symm
    omega
end
/-- not behind the last step -/
theorem StM.early {X : Type} {cs : List Nat} {A : Nat → X → World → Prop} {x : X} {L : Nat → Bool} {w : World} {c n : Nat} (h : StM cs A x L w) (hc : cs[n]? = some c) (hL : L c = false) : ∃ k, k ≤ n ∧ A k x w := by
  obtain ⟨k, h1, h2, h3⟩ := h
  refine ⟨k, ?_, h3⟩
  rcases Nat.lt_or_ge n k with h | h
  · rw [(h2 n c hc).2 h] at hL; cases hL
  · exact h
end Go.Proofs.YtmnndkhdekpecaaGreatDoor.Pkt
