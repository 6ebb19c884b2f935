/-
  Timers in a heap, as lists: the heap's order, an item that rises and sinks, the places of numbers, the list in order.
  Conditions: numbers from 0 to 4095, times from 0 on.
-/
import Derived.WalkKit
namespace Go.Proofs.Ytinhhfnknlmdgaa.Tm
set_option linter.unusedVariables false

/-- a timer: its number and its time -/
abbrev D := Int × Int
/-- where it stands in the order -/
def key (d : D) : Int := d.2 * 4096 + d.1
/-- may it be? -/
def Ok (d : D) : Prop := (0 ≤ d.1 ∧ d.1 < 4096) ∧ 0 ≤ d.2 ∧ d.2 ≤ 1099511627776
def at_ (X : List D) (i : Nat) : D := X.getD i (0, 0)
def ky (X : List D) (i : Nat) : Int := key (at_ X i)
theorem at_mem {X : List D} {i : Nat} (h : i < X.length) : at_ X i ∈ X := by
  unfold at_; rw [List.getD_eq_getElem?_getD, List.getElem?_eq_getElem h]; exact List.getElem_mem h
theorem at_get {X : List D} {i : Nat} (h : i < X.length) : X[i]? = some (at_ X i) := by
  unfold at_; rw [List.getD_eq_getElem?_getD, List.getElem?_eq_getElem h]; rfl
theorem at_set {X : List D} {i j : Nat} {d : D} (h : i < X.length) : at_ (X.set i d) j = if j = i then d else at_ X j := by
  unfold at_
  rw [List.getD_eq_getElem?_getD, List.getD_eq_getElem?_getD, List.getElem?_set]
  by_cases e : i = j
  · subst e; simp [h]
  · rw [if_neg e, if_neg (fun h => e h.symm)]
theorem at_push {X : List D} {j : Nat} {d : D} : at_ (X ++ [d]) j = if j = X.length then d else at_ X j := by
  unfold at_
  rw [List.getD_eq_getElem?_getD, List.getD_eq_getElem?_getD]
  by_cases h : j < X.length
  · rw [List.getElem?_append_left h, if_neg (by omega)]
  · by_cases e : j = X.length
    · subst e; simp
    · rw [if_neg e, List.getElem?_eq_none (by simp; omega), List.getElem?_eq_none (by omega)]
theorem at_take {X : List D} {j n : Nat} (h : j < n) : at_ (X.take n) j = at_ X j := by
  unfold at_
  rw [List.getD_eq_getElem?_getD, List.getD_eq_getElem?_getD, List.getElem?_take, if_pos h]
theorem key_inj {a b : D} (ha : Ok a) (hb : Ok b) (h : key a = key b) : a = b := by
  obtain ⟨⟨_, _⟩, _⟩ := ha
  obtain ⟨⟨_, _⟩, _⟩ := hb
  unfold key at h
  exact Prod.ext (by omega) (by omega)

/-- none stands ahead of its parent -/
def Heap (X : List D) : Prop := ∀ i, 0 < i → i < X.length → ky X ((i - 1) / 2) ≤ ky X i
/-- .. but for the one at p -/
def Almost (X : List D) (p : Nat) : Prop :=
  (∀ i, 0 < i → i < X.length → i ≠ p → (i - 1) / 2 ≠ p → ky X ((i - 1) / 2) ≤ ky X i) ∧
  (∀ i, 0 < i → i < X.length → (i - 1) / 2 = p → 0 < p → ky X ((p - 1) / 2) ≤ ky X i)
/-- .. and it is not ahead of its own -/
def Sunk (X : List D) (p : Nat) : Prop := Almost X p ∧ (0 < p → ky X ((p - 1) / 2) ≤ ky X p)

def swap (X : List D) (a b : Nat) : List D := (X.set a (at_ X b)).set b (at_ X a)
theorem swap_len (X : List D) (a b : Nat) : (swap X a b).length = X.length := by simp [swap]
theorem at_swap {X : List D} {a b i : Nat} (ha : a < X.length) (hb : b < X.length) : at_ (swap X a b) i = if i = b then at_ X a else if i = a then at_ X b else at_ X i := by
  unfold swap
  rw [at_set (by simpa using hb), at_set ha]
theorem ky_swap {X : List D} {a b i : Nat} (ha : a < X.length) (hb : b < X.length) : ky (swap X a b) i = if i = b then ky X a else if i = a then ky X b else ky X i := by
  unfold ky
  rw [at_swap ha hb]
  split
  · rfl
  · split <;> rfl

theorem rise_step {X : List D} {p : Nat} (h : Almost X p) (hp : 0 < p) (hl : p < X.length) (hk : ky X p < ky X ((p - 1) / 2)) : Almost (swap X p ((p - 1) / 2)) ((p - 1) / 2) := by
  have hq : (p - 1) / 2 < p := by omega
  generalize hqe : (p - 1) / 2 = q at *
  have hql : q < X.length := by omega
  obtain ⟨h1, h2⟩ := h
  have hqq : 0 < q → ky X ((q - 1) / 2) ≤ ky X q := fun h0 => h1 q h0 hql (by omega) (by omega)
  refine ⟨fun i hi hil hiq hpar => ?_, fun i hi hil hpar hq0 => ?_⟩
  · rw [swap_len] at hil
    rw [ky_swap hl hql, ky_swap hl hql, if_neg hpar, if_neg hiq]
    have hip : i ≠ p := fun e => hpar (by rw [e]; exact hqe)
    rw [if_neg hip]
    by_cases hpp : (i - 1) / 2 = p
    · rw [if_pos hpp]
      have := h2 i hi hil hpp hp
      rw [hqe] at this
      exact this
    · rw [if_neg hpp]
      exact h1 i hi hil hip hpp
  · rw [swap_len] at hil
    rw [ky_swap hl hql, ky_swap hl hql, if_neg (by omega), if_neg (by omega), if_neg (by omega)]
    by_cases hip : i = p
    · rw [if_pos hip]; exact hqq hq0
    · rw [if_neg hip]
      have a1 := hqq hq0
      have a2 := h1 i hi hil hip (by omega)
      rw [hpar] at a2
      omega

theorem sink_step {X : List D} {p t : Nat} (h : Sunk X p) (hl : p < X.length) (ht : t = 2 * p + 1 ∨ t = 2 * p + 2) (htl : t < X.length) (hk : ky X t < ky X p)
    (ho : ∀ c, c = 2 * p + 1 ∨ c = 2 * p + 2 → c < X.length → ky X t ≤ ky X c) : Sunk (swap X p t) t := by
  obtain ⟨⟨h1, h2⟩, h3⟩ := h
  have hpt : (t - 1) / 2 = p := by omega
  refine ⟨⟨fun i hi hil hit hpar => ?_, fun i hi hil hpar ht0 => ?_⟩, fun _ => ?_⟩
  · rw [swap_len] at hil
    rw [ky_swap hl htl, ky_swap hl htl, if_neg hpar, if_neg hit]
    by_cases hip : i = p
    · subst hip
      rw [if_pos rfl, if_neg (by omega)]
      exact h2 t (by omega) htl hpt hi
    · rw [if_neg hip]
      by_cases hpp : (i - 1) / 2 = p
      · rw [if_pos hpp]
        exact ho i (by omega) hil
      · rw [if_neg hpp]
        exact h1 i hi hil hip hpp
  · rw [swap_len] at hil
    rw [ky_swap hl htl, ky_swap hl htl, hpt, if_neg (by omega), if_pos rfl, if_neg (by omega), if_neg (by omega)]
    have := h1 i hi hil (by omega) (by omega)
    rw [hpar] at this
    exact this
  · rw [ky_swap hl htl, ky_swap hl htl, hpt, if_neg (by omega), if_pos rfl, if_pos rfl]
    omega

theorem sink_done {X : List D} {p : Nat} (h : Sunk X p) (ho : ∀ c, c = 2 * p + 1 ∨ c = 2 * p + 2 → c < X.length → ky X p ≤ ky X c) : Heap X := by
  obtain ⟨⟨h1, h2⟩, h3⟩ := h
  intro i hi hil
  by_cases hip : i = p
  · subst hip; exact h3 hi
  · by_cases hpp : (i - 1) / 2 = p
    · rw [hpp]; exact ho i (by omega) hil
    · exact h1 i hi hil hip hpp

theorem heap_set {X : List D} {p : Nat} {d : D} (h : Heap X) (hl : p < X.length) : Almost (X.set p d) p := by
  have hk : ∀ j, j ≠ p → ky (X.set p d) j = ky X j := fun j hj => by unfold ky; rw [at_set hl, if_neg hj]
  refine ⟨fun i hi hil hip hpar => ?_, fun i hi hil hpar hp0 => ?_⟩
  · rw [List.length_set] at hil
    rw [hk _ hpar, hk _ hip]; exact h i hi hil
  · rw [List.length_set] at hil
    rw [hk _ (by omega), hk _ (by omega)]
    have a1 := h i hi hil
    rw [hpar] at a1
    have a2 := h p hp0 hl
    omega
theorem heap_push {X : List D} {d : D} (h : Heap X) : Almost (X ++ [d]) X.length := by
  have hk : ∀ j, j ≠ X.length → ky (X ++ [d]) j = ky X j := fun j hj => by unfold ky; rw [at_push, if_neg hj]
  refine ⟨fun i hi hil hip hpar => ?_, fun i hi hil hpar hp0 => ?_⟩
  · simp at hil
    rw [hk _ hpar, hk _ hip]; exact h i hi (by omega)
  · simp at hil; omega
theorem heap_take {X : List D} {n : Nat} (h : Heap X) (hn : n ≤ X.length) : Heap (X.take n) := by
  intro i hi hil
  rw [List.length_take] at hil
  unfold ky
  rw [at_take (by omega), at_take (by omega)]
  exact h i hi (by omega)
theorem heap_top {X : List D} (h : Heap X) : ∀ i, i < X.length → ky X 0 ≤ ky X i := by
  intro i
  induction i using Nat.strongRecOn with
  | _ i ih =>
    intro hi
    by_cases h0 : i = 0
    · subst h0; exact Int.le_refl _
    · exact Int.le_trans (ih _ (by omega) (by omega)) (h i (by omega) hi)

theorem swap_perm {X : List D} {a b : Nat} (ha : a < X.length) (hb : b < X.length) : (swap X a b).Perm X := by
  rw [List.perm_iff_count]
  intro d
  unfold swap
  rw [List.count_set (by simpa using hb), List.count_set ha]
  have e1 : at_ X a = X[a] := by unfold at_; rw [List.getD_eq_getElem?_getD, List.getElem?_eq_getElem ha]; rfl
  have e2 : at_ X b = X[b] := by unfold at_; rw [List.getD_eq_getElem?_getD, List.getElem?_eq_getElem hb]; rfl
  have pa : (if X[a] == d then 1 else 0) ≤ X.count d := by
    split
    · rename_i h; rw [beq_iff_eq] at h; exact List.count_pos_iff.2 (h ▸ List.getElem_mem ha)
    · omega
  have pb : (if X[b] == d then 1 else 0) ≤ X.count d := by
    split
    · rename_i h; rw [beq_iff_eq] at h; exact List.count_pos_iff.2 (h ▸ List.getElem_mem hb)
    · omega
  rw [List.getElem_set]
  by_cases hab : a = b
  · subst hab
    rw [if_pos rfl, e1]
    omega
  · rw [if_neg hab, e1, e2]
    omega
theorem set_perm {X : List D} {p : Nat} {d : D} (hp : p < X.length) : (X.set p d).Perm (d :: X.eraseIdx p) := by
  induction X generalizing p with
  | nil => simp at hp
  | cons x X ih =>
    cases p with
    | zero => simp
    | succ p =>
      simp only [List.set_cons_succ, List.eraseIdx_cons_succ]
      exact (List.Perm.cons x (ih (by simpa using hp))).trans (List.Perm.swap d x _)
theorem erase_perm {X : List D} {p : Nat} (hp : p < X.length) : X.Perm (at_ X p :: X.eraseIdx p) := by
  have e : X.set p (at_ X p) = X := by
    refine List.ext_getElem? fun j => ?_
    rw [List.getElem?_set]
    by_cases h : p = j
    · subst h; rw [if_pos rfl, if_pos hp, at_get hp]
    · rw [if_neg h]
  have := set_perm (d := at_ X p) hp
  rw [e] at this
  exact this

/-- where numbers stand -/
def upd (f : Int → Option Int) (k v : Int) : Int → Option Int := fun x => if x = k then some v else f x
def del (f : Int → Option Int) (k : Int) : Int → Option Int := fun x => if x = k then none else f x
def Posn (f : Int → Option Int) (X : List D) : Prop :=
  (∀ i, i < X.length → f (at_ X i).1 = some (i : Int)) ∧ ∀ k v, f k = some v → 0 ≤ v ∧ v.toNat < X.length ∧ (at_ X v.toNat).1 = k
theorem Posn.inj {f : Int → Option Int} {X : List D} (h : Posn f X) {i j : Nat} (hi : i < X.length) (hj : j < X.length) (e : (at_ X i).1 = (at_ X j).1) : i = j := by
  have h1 := h.1 i hi
  rw [e, h.1 j hj] at h1
  simp at h1
  omega
theorem posn_swap {f : Int → Option Int} {X : List D} {a b : Nat} (h : Posn f X) (ha : a < X.length) (hb : b < X.length) : Posn (upd (upd f (at_ X b).1 a) (at_ X a).1 b) (swap X a b) := by
  refine ⟨fun i hi => ?_, fun k v hv => ?_⟩
  · rw [swap_len] at hi
    rw [at_swap ha hb]
    unfold upd
    by_cases hib : i = b
    · rw [if_pos hib, if_pos rfl, hib]
    · rw [if_neg hib]
      by_cases hia : i = a
      · rw [if_pos hia]
        by_cases e : (at_ X b).1 = (at_ X a).1
        · have := h.inj hb ha e
          omega
        · rw [if_neg e, if_pos rfl, hia]
      · rw [if_neg hia, if_neg (fun e => hia (h.inj hi ha e)), if_neg (fun e => hib (h.inj hi hb e))]
        exact h.1 i hi
  · unfold upd at hv
    rw [swap_len]
    by_cases e1 : k = (at_ X a).1
    · rw [if_pos e1] at hv
      cases hv
      refine ⟨by omega, by omega, ?_⟩
      rw [at_swap ha hb, if_pos (by omega)]; exact e1.symm
    · rw [if_neg e1] at hv
      by_cases e2 : k = (at_ X b).1
      · rw [if_pos e2] at hv
        cases hv
        refine ⟨by omega, by omega, ?_⟩
        have hab : a ≠ b := fun e => e1 (by rw [e]; exact e2)
        rw [at_swap ha hb, if_neg (by omega), if_pos (by omega)]; exact e2.symm
      · rw [if_neg e2] at hv
        obtain ⟨g1, g2, g3⟩ := h.2 k v hv
        refine ⟨g1, g2, ?_⟩
        rw [at_swap ha hb, if_neg (fun e => e2 (by rw [← g3, e])), if_neg (fun e => e1 (by rw [← g3, e]))]
        exact g3
theorem posn_set {f : Int → Option Int} {X : List D} {d : D} {i : Nat} (h : Posn f X) (hi : i < X.length) (e : (at_ X i).1 = d.1) : Posn (upd f d.1 i) (X.set i d) := by
  refine ⟨fun j hj => ?_, fun k v hv => ?_⟩
  · rw [List.length_set] at hj
    rw [at_set hi]
    unfold upd
    by_cases hji : j = i
    · rw [if_pos hji, if_pos rfl, hji]
    · rw [if_neg hji, if_neg (fun e2 => hji (h.inj hj hi (e2.trans e.symm)))]
      exact h.1 j hj
  · unfold upd at hv
    rw [List.length_set, at_set hi]
    by_cases e1 : k = d.1
    · rw [if_pos e1] at hv
      cases hv
      exact ⟨by omega, by omega, by rw [if_pos (by omega)]; exact e1.symm⟩
    · rw [if_neg e1] at hv
      obtain ⟨g1, g2, g3⟩ := h.2 k v hv
      exact ⟨g1, g2, by rw [if_neg (fun e2 => e1 (by rw [← g3, e2, e]))]; exact g3⟩
theorem posn_push {f : Int → Option Int} {X : List D} {d : D} (h : Posn f X) (e : f d.1 = none) : Posn (upd f d.1 X.length) (X ++ [d]) := by
  refine ⟨fun j hj => ?_, fun k v hv => ?_⟩
  · simp at hj
    rw [at_push]
    unfold upd
    by_cases hjl : j = X.length
    · rw [if_pos hjl, if_pos rfl, hjl]
    · have hj2 := h.1 j (by omega)
      rw [if_neg hjl, if_neg (fun e2 => by rw [e2, e] at hj2; cases hj2)]
      exact hj2
  · unfold upd at hv
    rw [at_push, List.length_append]
    by_cases e1 : k = d.1
    · rw [if_pos e1] at hv
      cases hv
      exact ⟨by omega, by simp, by rw [if_pos (by omega)]; exact e1.symm⟩
    · rw [if_neg e1] at hv
      obtain ⟨g1, g2, g3⟩ := h.2 k v hv
      exact ⟨g1, by omega, by rw [if_neg (by omega)]; exact g3⟩
theorem posn_pop {f : Int → Option Int} {X : List D} {n : Nat} (h : Posn f X) (hn : X.length = n + 1) : Posn (del f (at_ X n).1) (X.take n) := by
  refine ⟨fun j hj => ?_, fun k v hv => ?_⟩
  · rw [List.length_take] at hj
    rw [at_take (by omega)]
    unfold del
    rw [if_neg (fun e => by have := h.inj (by omega) (by omega) e; omega)]
    exact h.1 j (by omega)
  · unfold del at hv
    by_cases e1 : k = (at_ X n).1
    · rw [if_pos e1] at hv; cases hv
    · rw [if_neg e1] at hv
      obtain ⟨g1, g2, g3⟩ := h.2 k v hv
      have : v.toNat ≠ n := fun e => e1 (by rw [← g3, e])
      exact ⟨g1, by rw [List.length_take]; omega, by rw [at_take (by omega)]; exact g3⟩
theorem posn_move {f : Int → Option Int} {X : List D} {n p : Nat} (h : Posn f X) (hn : X.length = n + 1) (hp : p < n) : Posn (upd (del f (at_ X p).1) (at_ X n).1 p) ((X.take n).set p (at_ X n)) := by
  have hpt : p < (X.take n).length := by rw [List.length_take]; omega
  refine ⟨fun j hj => ?_, fun k v hv => ?_⟩
  · rw [List.length_set, List.length_take] at hj
    rw [at_set hpt]
    unfold upd del
    by_cases hjp : j = p
    · rw [if_pos hjp, if_pos rfl, hjp]
    · rw [if_neg hjp, at_take (by omega), if_neg (fun e => by have := h.inj (by omega) (by omega) e; omega), if_neg (fun e => hjp (h.inj (by omega) (by omega) e))]
      exact h.1 j (by omega)
  · unfold upd del at hv
    rw [List.length_set, List.length_take, at_set hpt]
    by_cases e1 : k = (at_ X n).1
    · rw [if_pos e1] at hv
      cases hv
      exact ⟨by omega, by omega, by rw [if_pos (by omega)]; exact e1.symm⟩
    · rw [if_neg e1] at hv
      by_cases e2 : k = (at_ X p).1
      · rw [if_pos e2] at hv; cases hv
      · rw [if_neg e2] at hv
        obtain ⟨g1, g2, g3⟩ := h.2 k v hv
        have n1 : v.toNat ≠ n := fun e => e1 (by rw [← g3, e])
        have n2 : v.toNat ≠ p := fun e => e2 (by rw [← g3, e])
        exact ⟨g1, by omega, by rw [if_neg n2, at_take (by omega)]; exact g3⟩
theorem Posn.nodup {f : Int → Option Int} {X : List D} (h : Posn f X) : (X.map (·.1)).Nodup := by
  rw [List.nodup_iff_pairwise_ne, List.pairwise_iff_getElem]
  intro i j hi hj hij e
  simp only [List.length_map] at hi hj
  simp only [List.getElem_map] at e
  have ei : at_ X i = X[i] := by unfold at_; rw [List.getD_eq_getElem?_getD, List.getElem?_eq_getElem hi]; rfl
  have ej : at_ X j = X[j] := by unfold at_; rw [List.getD_eq_getElem?_getD, List.getElem?_eq_getElem hj]; rfl
  have := h.inj hi hj (by rw [ei, ej]; exact e)
  omega

/-- how many numbers there are -/
theorem few_nats : ∀ (n : Nat) (l : List Nat), l.Nodup → (∀ x ∈ l, x < n) → l.length ≤ n := by
  intro n
  induction n with
  | zero =>
    intro l _ h
    cases l with
    | nil => simp
    | cons x l => exact absurd (h x (by simp)) (by omega)
  | succ n ih =>
    intro l hd h
    have h1 := ih (l.erase n) (hd.erase n) (fun x hx => by
      have hm := List.mem_of_mem_erase hx
      have hne : x ≠ n := fun e => by rw [e] at hx; exact (List.Nodup.not_mem_erase hd) hx
      have := h x hm
      omega)
    have h2 : l.length ≤ (l.erase n).length + 1 := by
      rw [List.length_erase]
      split <;> omega
    omega
theorem few {X : List D} (hd : (X.map (·.1)).Nodup) (hk : ∀ d ∈ X, Ok d) : X.length ≤ 4096 := by
  have h := few_nats 4096 (X.map fun d => d.1.toNat) ?_ ?_
  · simpa using h
  · rw [List.nodup_iff_pairwise_ne, List.pairwise_map] at hd ⊢
    refine List.Pairwise.imp_of_mem ?_ hd
    intro a b ha hb hne e
    have := (hk a ha).1
    have := (hk b hb).1
    exact hne (by omega)
  · intro x hx
    obtain ⟨d, hd2, rfl⟩ := List.mem_map.1 hx
    have := (hk d hd2).1
    omega

/-- in order -/
def Sd (S : List D) : Prop := S.Pairwise (fun a b => key a < key b)
/-- without one's number -/
def rm (k : Int) (S : List D) : List D := S.filter (fun d => !(d.1 == k))
/-- put in at its place -/
def ins (d : D) (S : List D) : List D := S.takeWhile (fun x => decide (key x < key d)) ++ d :: S.dropWhile (fun x => decide (key x < key d))
theorem ins_perm (d : D) (S : List D) : (ins d S).Perm (d :: S) := by
  unfold ins
  refine List.perm_middle.trans ?_
  rw [List.takeWhile_append_dropWhile]
theorem sd_unique : ∀ {S T : List D}, Sd S → Sd T → S.Perm T → S = T := by
  intro S
  induction S with
  | nil => intro T _ _ h; exact (List.Perm.nil_eq h)
  | cons x S ih =>
    intro T hS hT h
    cases T with
    | nil => exact absurd h.length_eq (by simp)
    | cons y T =>
      obtain ⟨h1, h2⟩ := List.pairwise_cons.1 hS
      obtain ⟨h3, h4⟩ := List.pairwise_cons.1 hT
      have hxy : x = y := by
        have mx : x ∈ y :: T := h.mem_iff.1 (by simp)
        have my : y ∈ x :: S := h.mem_iff.2 (by simp)
        rcases List.mem_cons.1 mx with e | mx
        · exact e
        · rcases List.mem_cons.1 my with e | my
          · exact e.symm
          · have a1 := h3 x mx
            have a2 := h1 y my
            omega
      subst hxy
      rw [ih h2 h4 ((List.perm_cons x).1 h)]
theorem Sd.filter {S : List D} (h : Sd S) (p : D → Bool) : Sd (S.filter p) := List.Pairwise.filter p h
theorem Sd.rm {S : List D} (h : Sd S) (k : Int) : Sd (rm k S) := h.filter _
theorem sd_take {S : List D} {v : Int} (h : Sd S) : ∀ x ∈ S.dropWhile (fun x => decide (key x < v)), v ≤ key x := by
  induction S with
  | nil => simp
  | cons y S ih =>
    obtain ⟨h1, h2⟩ := List.pairwise_cons.1 h
    rw [List.dropWhile_cons]
    by_cases hy : key y < v
    · rw [if_pos (by simpa using hy)]; exact ih h2
    · rw [if_neg (by simpa using hy)]
      intro x hx
      rcases List.mem_cons.1 hx with rfl | hx
      · omega
      · have := h1 x hx; omega
theorem takeWhile_all {α : Type} (p : α → Bool) : ∀ (l : List α), ∀ x ∈ l.takeWhile p, p x = true
  | [], x, h => by simp at h
  | y :: l, x, h => by
    rw [List.takeWhile_cons] at h
    split at h
    · rcases List.mem_cons.1 h with rfl | h
      · assumption
      · exact takeWhile_all p l x h
    · simp at h
theorem sd_ins {S : List D} {d : D} (h : Sd S) (hd : ∀ x ∈ S, key x ≠ key d) : Sd (ins d S) := by
  unfold ins Sd
  have hsub1 := List.takeWhile_sublist (fun x : D => decide (key x < key d)) (l := S)
  have hsub2 := List.dropWhile_sublist (fun x : D => decide (key x < key d)) (l := S)
  refine List.pairwise_append.2 ⟨h.sublist hsub1, List.pairwise_cons.2 ⟨fun x hx => ?_, h.sublist hsub2⟩, fun x hx y hy => ?_⟩
  · have h1 := sd_take h x hx
    have h2 := hd x (hsub2.subset hx)
    omega
  · have h1 : key x < key d := by simpa using takeWhile_all _ S x hx
    rcases List.mem_cons.1 hy with rfl | hy
    · exact h1
    · have h2 := sd_take h y hy
      omega
theorem mem_rm {k : Int} {S : List D} {x : D} : x ∈ rm k S ↔ x ∈ S ∧ x.1 ≠ k := by
  unfold rm; rw [List.mem_filter]; simp
theorem sd_put {S : List D} {d : D} (h : Sd S) (hk : ∀ x ∈ S, Ok x) (hd : Ok d) : Sd (ins d (rm d.1 S)) := by
  refine sd_ins (h.rm _) fun x hx e => ?_
  obtain ⟨h1, h2⟩ := mem_rm.1 hx
  exact h2 (by rw [key_inj (hk x h1) hd e])

/-- the heap's items in order -/
def Abs (X S : List D) : Prop := S.Perm X ∧ Sd S
theorem abs_put {X X' S : List D} {d : D} (h : Abs X S) (hk : ∀ x ∈ X, Ok x) (hd : Ok d) (hp : X'.Perm (d :: rm d.1 X)) : Abs X' (ins d (rm d.1 S)) :=
  ⟨(ins_perm _ _).trans (((List.Perm.filter _ h.1).cons d).trans hp.symm), sd_put h.2 (fun x hx => hk x (h.1.mem_iff.1 hx)) hd⟩
theorem abs_take {X X' S : List D} {k : Int} (h : Abs X S) (hp : X'.Perm (rm k X)) : Abs X' (rm k S) :=
  ⟨(List.Perm.filter _ h.1).trans hp.symm, h.2.rm _⟩
theorem rm_none {k : Int} {X : List D} (h : ∀ x ∈ X, x.1 ≠ k) : rm k X = X := by
  unfold rm
  refine List.filter_eq_self.2 fun x hx => ?_
  simpa using h x hx
/-- the one at i has the number: it alone goes -/
theorem rm_erase {f : Int → Option Int} {X : List D} {i : Nat} (h : Posn f X) (hi : i < X.length) : rm (at_ X i).1 X = X.eraseIdx i := by
  have hX : X = X.take i ++ at_ X i :: X.drop (i + 1) := by
    have e : at_ X i = X[i] := by unfold at_; rw [List.getD_eq_getElem?_getD, List.getElem?_eq_getElem hi]; rfl
    rw [e, ← List.drop_eq_getElem_cons hi, List.take_append_drop]
  have hE : X.eraseIdx i = X.take i ++ X.drop (i + 1) := List.eraseIdx_eq_take_drop_succ X i
  have hn : ∀ j (hj : j < X.length), j ≠ i → (X[j].1 == (at_ X i).1) = false := fun j hj hne => by
    rw [beq_eq_false_iff_ne]
    intro e
    have ej : at_ X j = X[j] := by unfold at_; rw [List.getD_eq_getElem?_getD, List.getElem?_eq_getElem hj]; rfl
    exact hne (h.inj hj hi (by rw [ej]; exact e))
  rw [hE]
  generalize at_ X i = a at hX hn ⊢
  unfold rm
  have hF : X.filter (fun d => !(d.1 == a.1)) = (X.take i ++ a :: X.drop (i + 1)).filter (fun d => !(d.1 == a.1)) := congrArg (List.filter fun d => !(d.1 == a.1)) hX
  rw [hF, List.filter_append, List.filter_cons_of_neg (by simp)]
  congr 1
  · refine List.filter_eq_self.2 fun x hx => ?_
    obtain ⟨j, hj, rfl⟩ := List.mem_iff_getElem.1 hx
    rw [List.length_take] at hj
    rw [List.getElem_take, hn j (by omega) (by omega)]; rfl
  · refine List.filter_eq_self.2 fun x hx => ?_
    obtain ⟨j, hj, rfl⟩ := List.mem_iff_getElem.1 hx
    rw [List.length_drop] at hj
    rw [List.getElem_drop, hn (i + 1 + j) (by omega) (by omega)]; rfl
/-- the first one in order is the heap's first -/
theorem abs_top {X S : List D} (h : Abs X S) (hh : Heap X) (hk : ∀ x ∈ X, Ok x) (h0 : 0 < X.length) : S[0]? = some (at_ X 0) := by
  cases S with
  | nil => have := h.1.length_eq; simp at this; omega
  | cons s S =>
    have hm : at_ X 0 ∈ s :: S := h.1.mem_iff.2 (at_mem h0)
    have hs : s ∈ X := h.1.mem_iff.1 (by simp)
    obtain ⟨j, hj, hjs⟩ := List.mem_iff_getElem.1 hs
    have hk2 := heap_top hh j hj
    unfold ky at hk2
    have ej : at_ X j = s := by unfold at_; rw [List.getD_eq_getElem?_getD, List.getElem?_eq_getElem hj]; simpa using hjs
    rw [ej] at hk2
    have : s = at_ X 0 := by
      rcases List.mem_cons.1 hm with e | hm
      · exact e.symm
      · have := (List.pairwise_cons.1 h.2).1 _ hm
        omega
    simp [this]
/-- what a number's timer is -/
def look (k : Int) (S : List D) : Option D := S.find? (fun d => d.1 == k)
theorem abs_look {f : Int → Option Int} {X S : List D} (h : Abs X S) (hp : Posn f X) (k : Int) : look k S = (f k).map (fun v => at_ X v.toNat) := by
  unfold look
  cases hf : f k with
  | none =>
    rw [Option.map_none, List.find?_eq_none]
    intro x hx
    obtain ⟨j, hj, rfl⟩ := List.mem_iff_getElem.1 (h.1.mem_iff.1 hx)
    have := hp.1 j hj
    unfold at_ at this
    rw [List.getD_eq_getElem?_getD, List.getElem?_eq_getElem hj] at this
    simp only [Option.getD_some] at this
    intro e
    rw [beq_iff_eq] at e
    rw [e, hf] at this
    cases this
  | some v =>
    obtain ⟨g1, g2, g3⟩ := hp.2 k v hf
    rw [Option.map_some]
    have hm : at_ X v.toNat ∈ S := h.1.mem_iff.2 (at_mem g2)
    cases hfi : S.find? (fun d => d.1 == k) with
    | none => exact absurd (List.find?_eq_none.1 hfi _ hm) (by simp [g3])
    | some y =>
      have hy := List.find?_some hfi
      rw [beq_iff_eq] at hy
      obtain ⟨j, hj, hjy⟩ := List.mem_iff_getElem.1 (h.1.mem_iff.1 (List.mem_of_find?_eq_some hfi))
      have ej : at_ X j = y := by unfold at_; rw [List.getD_eq_getElem?_getD, List.getElem?_eq_getElem hj]; simpa using hjy
      have := hp.inj hj g2 (by rw [ej, hy, g3])
      rw [← ej, this]
end Go.Proofs.Ytinhhfnknlmdgaa.Tm
