/-
  Chunks bundled into rows, as lists: what holds of the rows.
  Conditions: as at each lemma.
-/
import Derived.Test.YtmnndkhdekpecaaGreatDoorPkM
namespace Go.Proofs.YtmnndkhdekpecaaGreatDoor.Pkt
open Chu (Ch clen tot)
set_option linter.unusedVariables false

/-- rows that are done, the last row, what it has room for -/
abbrev Bs := List (List Ch) × List Ch × Int
def more (s : Bs) (v : Ch) : Prop := s.2.1 ≠ [] ∧ (clen v : Int) ≤ s.2.2 ∧ ¬ alone v.kind ∧ ∀ u ∈ s.2.1, ¬ alone u.kind
noncomputable def bst (m : Int) (s : Bs) (v : Ch) : Bs :=
  @ite _ (more s v) (Classical.propDecidable _) (s.1, s.2.1 ++ [v], s.2.2 - clen v) ((match s.2.1 with | [] => [] | _ :: _ => s.1 ++ [s.2.1]), [v], m - 12 - clen v)
/-- all rows -/
def rowsOf (s : Bs) : List (List Ch) := match s.2.1 with | [] => [] | _ :: _ => s.1 ++ [s.2.1]
noncomputable def bun (m : Int) (vs : List Ch) : Bs := vs.foldl (bst m) ([], [], 0)
theorem bun_snoc {m : Int} {vs : List Ch} {k : Nat} {v : Ch} (h : vs[k]? = some v) : bun m (vs.take (k + 1)) = bst m (bun m (vs.take k)) v := by
  rw [List.take_add_one, h]
  unfold bun
  rw [Option.toList_some, List.foldl_append]
  rfl
theorem bst_yes {m : Int} {s : Bs} {v : Ch} (h : more s v) : bst m s v = (s.1, s.2.1 ++ [v], s.2.2 - clen v) := if_pos h
theorem bst_no {m : Int} {s : Bs} {v : Ch} (h : ¬ more s v) : bst m s v = (rowsOf s, [v], m - 12 - clen v) := by
  unfold bst
  rw [if_neg h]
  rfl
theorem rows_cur {s : Bs} (h : s.2.1 ≠ []) : rowsOf s = s.1 ++ [s.2.1] := by
  unfold rowsOf
  split
  · rename_i e; exact absurd e h
  · rfl
theorem rows_nil {s : Bs} (h : s.2.1 = []) : rowsOf s = [] := by
  unfold rowsOf
  rw [h]

/-- what holds of rows -/
structure BI (m : Int) (vs : List Ch) (s : Bs) : Prop where
  flat : (rowsOf s).flatten = vs
  emp : s.2.1 = [] → s.2.2 = 0
  room : s.2.1 ≠ [] → s.2.2 = m - 12 - tot s.2.1
  each : ∀ r ∈ rowsOf s, r ≠ [] ∧ (tot r : Int) ≤ m - 12 ∧ ¬ Mixed r
  adj : ∀ (i : Nat) (r : List Ch) (v : Ch) (r' : List Ch), (rowsOf s)[i]? = some r → (rowsOf s)[i + 1]? = some (v :: r') → Mixed (r ++ [v]) ∨ m - 12 < tot (r ++ [v])
theorem bi_nil (m : Int) : BI m [] ([], [], 0) :=
  ⟨rfl, fun _ => rfl, fun h => absurd rfl h, (fun r hr => by cases hr), (fun i r v r' h => by simp [rowsOf] at h)⟩
theorem tot_snoc1 (vs : List Ch) (v : Ch) : tot (vs ++ [v]) = tot vs + clen v := by simp [tot]
theorem mixed_of {l : List Ch} (h : ¬ Mixed l) (h2 : 2 ≤ l.length) : ∀ u ∈ l, ¬ alone u.kind := fun u hu ha => h ⟨h2, u, hu, ha⟩
theorem mixed_same {l : List Ch} (h : ¬ Mixed l) {u v : Ch} (hu : u ∈ l) (hv : v ∈ l) : alone u.kind → alone v.kind := by
  intro ha
  rcases Nat.lt_or_ge l.length 2 with h1 | h1
  · cases l with
    | nil => cases hu
    | cons x r =>
      cases r with
      | nil =>
        rw [List.mem_singleton] at hu hv
        rw [hv, ← hu]
        exact ha
      | cons y r => simp at h1; omega
  · exact absurd ha (mixed_of h h1 u hu)
theorem BI.step {m : Int} {vs : List Ch} {s : Bs} {v : Ch} (h : BI m vs s) (hfit : (clen v : Int) + 12 ≤ m) : BI m (vs ++ [v]) (bst m s v) := by
  obtain ⟨D, cur, room⟩ := s
  by_cases hm : more (D, cur, room) v
  · rw [bst_yes hm]
    obtain ⟨h1, h2, h3, h4⟩ := hm
    simp only at h1 h2 h4
    have hr := h.room h1
    have e0 := rows_cur (s := (D, cur, room)) h1
    have hne : cur ++ [v] ≠ [] := by simp
    have e1 := rows_cur (s := (D, cur ++ [v], room - clen v)) hne
    have hflat := h.flat
    have heach := h.each
    have hadj := h.adj
    simp only at hr e0 e1
    rw [e0] at hflat heach hadj
    refine ⟨?_, fun h => absurd h hne, fun _ => ?_, ?_, ?_⟩
    · rw [e1]
      rw [← hflat]
      simp
    · show room - clen v = m - 12 - tot (cur ++ [v])
      rw [tot_snoc1]
      omega
    · rw [e1]
      intro r hr'
      rcases List.mem_append.1 hr' with hr' | hr'
      · exact heach r (List.mem_append_left _ hr')
      · obtain rfl := List.mem_singleton.1 hr'
        refine ⟨hne, by rw [tot_snoc1]; omega, ?_⟩
        rintro ⟨_, u, hu, ha⟩
        rcases List.mem_append.1 hu with hu | hu
        · exact h4 u hu ha
        · obtain rfl := List.mem_singleton.1 hu
          exact h3 ha
    · rw [e1]
      intro i r x r' hi hi'
      rcases Nat.lt_or_ge (i + 1) D.length with hlt | hge
      · rw [List.getElem?_append_left (by omega)] at hi hi'
        exact hadj i r x r' (by rw [List.getElem?_append_left (by omega)]; exact hi) (by rw [List.getElem?_append_left (by omega)]; exact hi')
      · rw [List.getElem?_append_right hge] at hi'
        have hz : i + 1 - D.length = 0 := by
          rcases Nat.eq_zero_or_pos (i + 1 - D.length) with h0 | h0
          · exact h0
          · rw [List.getElem?_eq_none (by simp; omega)] at hi'; cases hi'
        rw [hz] at hi'
        have hcv : cur ++ [v] = x :: r' := by simpa using hi'
        cases hcur : cur with
        | nil => exact absurd hcur h1
        | cons y c' =>
          rw [hcur] at hcv
          obtain ⟨rfl, -⟩ : y = x ∧ c' ++ [v] = r' := by simpa using hcv
          rw [List.getElem?_append_left (by omega)] at hi
          exact hadj i r y c' (by rw [List.getElem?_append_left (by omega)]; exact hi) (by rw [List.getElem?_append_right hge, hz, hcur]; rfl)
  · rw [bst_no hm]
    have hne : [v] ≠ [] := by simp
    have e1 := rows_cur (s := (rowsOf (D, cur, room), [v], m - 12 - clen v)) hne
    simp only at e1
    have ht : tot [v] = clen v := Chu.tot_one v
    refine ⟨?_, fun h => absurd h hne, fun _ => ?_, ?_, ?_⟩
    · rw [e1, List.flatten_append, h.flat]
      rfl
    · show m - 12 - clen v = m - 12 - tot [v]
      rw [ht]
    · rw [e1]
      intro r hr'
      rcases List.mem_append.1 hr' with hr' | hr'
      · exact h.each r hr'
      · obtain rfl := List.mem_singleton.1 hr'
        refine ⟨hne, by rw [ht]; omega, ?_⟩
        rintro ⟨h2, _⟩
        simp at h2
    · rw [e1]
      intro i r x r' hi hi'
      rcases Nat.lt_or_ge (i + 1) (rowsOf (D, cur, room)).length with hlt | hge
      · rw [List.getElem?_append_left (by omega)] at hi hi'
        exact h.adj i r x r' hi hi'
      · rw [List.getElem?_append_right hge] at hi'
        have hz : i + 1 - (rowsOf (D, cur, room)).length = 0 := by
          rcases Nat.eq_zero_or_pos (i + 1 - (rowsOf (D, cur, room)).length) with h0 | h0
          · exact h0
          · rw [List.getElem?_eq_none (by simp; omega)] at hi'; cases hi'
        rw [hz] at hi'
        obtain ⟨rfl, rfl⟩ : v = x ∧ [] = r' := by simpa using hi'
        rw [List.getElem?_append_left (by omega)] at hi
        by_cases hc : cur = []
        · rw [rows_nil (s := (D, cur, room)) hc] at hi
          cases hi
        · have e0 := rows_cur (s := (D, cur, room)) hc
          simp only at e0
          rw [e0] at hi hge hz
          simp only [List.length_append, List.length_cons, List.length_nil] at hge hz
          rw [List.getElem?_append_right (by omega), show i - D.length = 0 by omega] at hi
          obtain rfl : cur = r := by simpa using hi
          have hr := h.room hc
          simp only at hr
          by_cases k1 : (clen v : Int) ≤ room
          · left
            have hlen : 1 ≤ cur.length := by
              rcases Nat.eq_zero_or_pos cur.length with h0 | h0
              · exact absurd (List.eq_nil_of_length_eq_zero h0) hc
              · exact h0
            refine ⟨by simp; omega, ?_⟩
            by_cases k2 : alone v.kind
            · exact ⟨v, by simp, k2⟩
            · have : ¬ ∀ u ∈ cur, ¬ alone u.kind := fun k3 => hm ⟨hc, k1, k2, k3⟩
              obtain ⟨u, hu⟩ := Classical.not_forall.1 this
              obtain ⟨hu1, hu2⟩ := Classical.not_imp.1 hu
              exact ⟨u, List.mem_append_left _ hu1, Classical.not_not.1 hu2⟩
          · right
            rw [tot_snoc1]
            omega
theorem BI.all {m : Int} {vs : List Ch} (hfit : ∀ v ∈ vs, (clen v : Int) + 12 ≤ m) : ∀ k, k ≤ vs.length → BI m (vs.take k) (bun m (vs.take k)) := by
  intro k
  induction k with
  | zero => intro _; exact bi_nil m
  | succ k ih =>
    intro hk
    have hv : vs[k]? = some vs[k] := List.getElem?_eq_getElem (by omega)
    rw [bun_snoc hv, List.take_add_one, hv]
    exact (ih (by omega)).step (hfit _ (List.getElem_mem (by omega)))
theorem BI.cur {m : Int} {vs : List Ch} {s : Bs} (h : BI m vs s) (hc : s.2.1 ≠ []) : ¬ Mixed s.2.1 :=
  (h.each s.2.1 (by rw [rows_cur hc]; simp)).2.2
/-- the next chunk, by any chunk of the last row -/
theorem more_of {m : Int} {vs : List Ch} {s : Bs} {v u : Ch} (h : BI m vs s) (hu : u ∈ s.2.1) : more s v ↔ ((clen v : Int) ≤ s.2.2 ∧ ¬ alone v.kind ∧ ¬ alone u.kind) := by
  have hc : s.2.1 ≠ [] := by
    intro e
    rw [e] at hu
    cases hu
  have hm := h.cur hc
  constructor
  · rintro ⟨_, h1, h2, h3⟩
    exact ⟨h1, h2, h3 u hu⟩
  · rintro ⟨h1, h2, h3⟩
    exact ⟨hc, h1, h2, fun x hx ha => h3 (mixed_same hm hx hu ha)⟩
/-- the last chunk that was laid stands last in the last row -/
theorem BI.last {m : Int} {vs : List Ch} {s : Bs} {k : Nat} {u : Ch} (h : BI m (vs.take (k + 1)) s) (hu : vs[k]? = some u) : u ∈ s.2.1 := by
  have hf := h.flat
  rw [List.take_add_one, hu] at hf
  by_cases hc : s.2.1 = []
  · rw [rows_nil hc] at hf
    have := congrArg List.length hf
    simp at this
  · rw [rows_cur hc, List.flatten_append] at hf
    obtain ⟨c, y, e⟩ : ∃ c y, s.2.1 = c ++ [y] := ⟨_, _, (List.dropLast_concat_getLast hc).symm⟩
    rw [e] at hf ⊢
    simp only [List.flatten_cons, List.flatten_nil, List.append_nil, ← List.append_assoc, Option.toList_some] at hf
    have := (List.append_inj' hf rfl).2
    obtain rfl : y = u := by simpa using this
    simp
end Go.Proofs.YtmnndkhdekpecaaGreatDoor.Pkt
