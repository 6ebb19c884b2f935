/-
  The document's order: one put among those that are in order, again and again.
  Conditions: as at each lemma.
-/
import Derived.Test.YtcflcibncbipbaaScN
namespace Go.Proofs.Ytcflcibncbipbaa.Sc
open Go.ChangeShapes Go.WideShapes Go.ChangeAt Go.RowKit Go.Sort Go.Lib
open Ba (hidden Has Only)
open Ow (Own)
set_option linter.unusedVariables false

theorem Nu.take {w : World} {a : Option Addr} {n : Nat} {ys : List Int} (h : Nu w a n ys) {k : Nat} (hk : k ≤ n) : Nu w a k (ys.take k) := by
  obtain ⟨h1, h2, h3, h4⟩ := h
  refine ⟨by simp; omega, fun z hz => h2 z (List.mem_of_mem_take hz), by omega, ?_⟩
  rcases h4 with h4 | ⟨b, off, e, hb, hc⟩
  · exact .inl (by omega)
  · exact .inr ⟨b, off, e, hb, fun j z hz => hc j z (by
      by_cases hj : j < k
      · rwa [List.getElem?_take_of_lt hj] at hz
      · rw [List.getElem?_take_eq_none (by omega)] at hz
        cases hz)⟩
theorem Nu.drop {w : World} {b off n : Nat} {ys : List Int} (h : Nu w (some ⟨b, off, none⟩) n ys) (k : Nat) : Nu w (some ⟨b, off + k, none⟩) (n - k) (ys.drop k) := by
  obtain ⟨h1, h2, h3, h4⟩ := h
  refine ⟨by simp; omega, fun z hz => h2 z (List.mem_of_mem_drop hz), by omega, ?_⟩
  rcases h4 with h4 | ⟨b', off', e, hb, hc⟩
  · exact .inl (by omega)
  · cases e
    refine .inr ⟨b, off + k, rfl, hb, fun j z hz c u hu => ?_⟩
    rw [List.getElem?_drop] at hz
    have := hc (k + j) z hz c u hu
    rw [← this]
    congr 2
    omega
theorem Nu.none0 {w : World} (a : Option Addr) : Nu w a 0 [] := ⟨rfl, by simp, by decide, .inl rfl⟩
/-- a row behind a row of one's own -/
theorem app_row {w : World} {base n m c : Nat} {v : Value} {xs ys : List Int} {a : Option Addr} (hown : w.ownsRow base 3 1 v n (lc xs)) (h : Nu w a m ys) (ha : a = none → m = 0 ∧ c = 0) (hn : n + m ≤ 1000) (hb : base ≤ w.heap.size) :
    ∃ v' w', (Builtin.append_ #[23, 23] 23 #[v, .slice a m c]).run Try.prog w = .ok v' w' ∧ w'.ownsRow base 3 1 v' (n + m) (lc (xs ++ ys)) ∧ w.grownBy w' v.ownBlock := by
  obtain ⟨i0, hi, hz0, hz1, hz2⟩ := info_parts infoI
  have hl : (lc ys).length = m * 1 := by rw [lc_len, h.len, Nat.mul_one]
  cases a with
  | none =>
    obtain ⟨rfl, rfl⟩ := ha rfl
    have hy : ys = [] := List.length_eq_zero_iff.1 h.len
    subst hy
    rw [List.append_nil]
    exact ⟨_, _, run_append_owned_none (P := Try.prog) _ base 23 23 3 i0 1 Try.underlying23 hi _ n (lc xs) hown, hown, ⟨rfl, rfl, rfl, Nat.le_refl _, fun _ _ _ => rfl⟩⟩
  | some ad =>
    have hnews : ∀ j u, (lc ys)[j]? = some u → w.cell? (ad.add j) = some u := by
      rcases Nat.eq_zero_or_pos m with h0 | h0
      · have hy : ys = [] := List.length_eq_zero_iff.1 (h.len.trans h0)
        subst hy
        intro j u hj
        simp [lc] at hj
      · obtain ⟨b, off, e, _⟩ := Nu.open h h0
        cases e
        exact Nu.news h
    obtain ⟨v', w', hr, h1, h2, _⟩ := run_append_own (P := Try.prog) _ base 23 23 3 i0 _ 1 8 Try.underlying23 hi hz0 hz1 hz2 rfl (by decide) _ n (lc xs) hown ad m c (lc ys) hl hnews (lc_one _) (by unfold maxLen; omega) (by omega) hb
    rw [← lc_app] at h1
    exact ⟨v', w', hr, h1, h2⟩
/-- where it is put -/
theorem ins_at {α : Type} {lt : α → α → Bool} {x : α} : ∀ {out : List α} {k : Nat}, (out.take k).all (fun y => lt y x) = true → (k = out.length ∨ ∃ y, out[k]? = some y ∧ lt y x = false) → ins lt x out = out.take k ++ x :: out.drop k
  | [], k, _, _ => by simp [ins]
  | y :: ys, 0, _, h => by
    rcases h with h | ⟨z, hz, hf⟩
    · simp at h
    · simp at hz
      subst hz
      rw [ins_f hf]
      rfl
  | y :: ys, k + 1, ha, h => by
    simp only [List.take_succ_cons, List.all_cons, Bool.and_eq_true] at ha
    rw [ins_t ha.1, ins_at ha.2 (h.imp (by simp) (by simp))]
    rfl
/-- the three appends -/
theorem put3 {W : World} {B k co t : Nat} {ao : Option Addr} {out : List Int} (hO : W.ownsRow B 3 1 (.slice ao k co) k (lc out)) (hB : B ≤ W.heap.size) (hk : k < 100) (hx : ∀ z ∈ out, (Lit.int .i64 z).wf = true) (ht : t ≤ k) (x : Int) :
    ∃ v1 w1 v2 w2 v3 w3, (Builtin.append_ #[23, 23] 23 #[.slice (some ⟨W.heap.size, 0, none⟩) 0 0, .slice ao t co]).run Try.prog (W.alloc (.cells #[] 3)) = .ok v1 w1 ∧ Below W.heap.size W w1 ∧
      (Builtin.append_ #[23, 23] 23 #[v1, .slice (some ⟨w1.heap.size, 0, none⟩) 1 1]).run Try.prog (w1.alloc (.cells #[.int .i64 x] 3)) = .ok v2 w2 ∧
      (Builtin.append_ #[23, 23] 23 #[v2, .slice (if co = t then ao else ao.map (·.add t)) (k - t) (co - t)]).run Try.prog w2 = .ok v3 w3 ∧ Below W.heap.size W w3 ∧ w3.ownsRow B 3 1 v3 (k + 1) (lc (out.take t ++ x :: out.drop t)) := by
  obtain ⟨a', c', e, hnu⟩ := Nu.own hO hx (by omega)
  cases e
  have hlen := hnu.len
  have hnone : ao = none → k = 0 ∧ co = 0 := fun e => by
    subst e
    rcases hO.2 with ⟨h1, h2⟩ | ⟨g, cap, cur, h1, _⟩
    · cases h1
      exact ⟨rfl, rfl⟩
    · cases h1
  have hcap : k ≤ co := by
    rcases hO.2 with ⟨h1, h2⟩ | ⟨g, cap, cur, h1, _, _, h3, _⟩
    · cases h1
      exact Nat.le_refl _
    · cases h1
      exact h3
  have hb := (Below.refl W.heap.size W).alloc (Nat.le_refl _) (.cells #[] 3)
  have hown0 : (W.alloc (.cells #[] 3)).ownsRow W.heap.size 3 1 (.slice (some ⟨W.heap.size, 0, none⟩) 0 0) 0 (lc []) := World.ownsRow_lit W #[] 0 (Nat.le_refl _) (Nat.zero_le _) rfl
  obtain ⟨v1, w1, hr1, ho1, hg1⟩ := app_row (c := co) hown0 ((hnu.take ht).later hb) (fun e => by have := hnone e; omega) (by omega) (by simp)
  rw [Nat.zero_add, List.nil_append] at ho1
  have b1 : Below W.heap.size W w1 := hb.grown hg1 (by simp) (fun q hq => by cases hq; exact Nat.le_refl _)
  obtain ⟨v2, w2, hr2, ho2, hg2, hw2⟩ := app1 ho1 (by omega) b1.size x
  have b2 : Below W.heap.size W w2 := b1.trans (grown_below hg2 b1.size fun g hg => (own_base ho1 g hg).1)
  have hnu3 : Nu w2 (if co = t then ao else ao.map (·.add t)) (k - t) (out.drop t) := by
    cases ao with
    | none =>
      obtain ⟨rfl, rfl⟩ := hnone rfl
      have : out = [] := List.length_eq_zero_iff.1 hlen
      subst this
      have : t = 0 := by omega
      subst this
      exact Nu.none0 _
    | some ad =>
      split
      · rename_i e
        have e1 : k - t = 0 := by omega
        rw [e1, List.drop_eq_nil_of_le (by omega)]
        exact Nu.none0 _
      · rcases Nat.eq_zero_or_pos k with h0 | h0
        · have : out = [] := List.length_eq_zero_iff.1 (hlen.trans h0)
          subst this
          have e1 : k - t = 0 := by omega
          rw [e1]
          simp only [List.drop_nil]
          exact Nu.none0 _
        · obtain ⟨b, off, e, _⟩ := hnu.open h0
          cases e
          have := (hnu.drop t).later b2
          simp only [Option.map_some, Go.WideShapes.add_plain]
          exact this
  obtain ⟨v3, w3, hr3, ho3, hg3⟩ := app_row (c := co - t) ho2 hnu3 (fun e => by
    cases ao with
    | none => have := hnone rfl; omega
    | some ad =>
      split at e
      · cases e
      · cases e) (by omega) b2.size
  have hW : ∀ g, v2.ownBlock = some g → W.heap.size ≤ g := fun g hg => (own_base ho2 g hg).1
  have b3 : Below W.heap.size W w3 := b2.grown hg3 b2.size hW
  refine ⟨v1, w1, v2, w2, v3, w3, hr1, b1, hr2, hr3, b3, ?_⟩
  have e1 : t + 1 + (k - t) = k + 1 := by omega
  rw [e1] at ho3
  rw [List.append_assoc] at ho3
  exact Ba.own_mono ho3 fun g hg => Nat.le_trans hB (own_base ho3 g hg).1
end Go.Proofs.Ytcflcibncbipbaa.Sc
