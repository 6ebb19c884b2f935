/-
  Queues as values: what is left of messages by streams, the next stream, pieces.
  Conditions: as at each lemma.
-/
import Derived.Test.YtfgoamfoddkafaaOw
namespace Go.Proofs.Ytfgoamfoddkafaa.Sq
set_option linter.unusedVariables false

def Bytes (zs : List Int) : Prop := ∀ n ∈ zs, 0 ≤ n ∧ n < 256
theorem Bytes.nil : Bytes [] := fun n h => by cases h
theorem Bytes.append {xs ys : List Int} (h : Bytes xs) (k : Bytes ys) : Bytes (xs ++ ys) := fun n hn => (List.mem_append.1 hn).elim (h n) (k n)
theorem Bytes.take {xs : List Int} (h : Bytes xs) (k : Nat) : Bytes (xs.take k) := fun n hn => h n (List.mem_of_mem_take hn)
theorem Bytes.drop {xs : List Int} (h : Bytes xs) (k : Nat) : Bytes (xs.drop k) := fun n hn => h n (List.mem_of_mem_drop hn)

/-- what is left of a message -/
structure Rest where
  st : Int
  sn : Int
  pr : Int
  un : Bool
  d : List Int
  bg : Bool
/-- a piece -/
structure Pc where
  st : Int
  sn : Int
  pr : Int
  un : Bool
  d : List Int
  bg : Bool
  en : Bool
/-- a queue -/
structure St where
  n : Nat
  lim : Int
  last : Nat
  bgn : Bool
  R : Nat → List Rest
  sn : Nat → Int
  wt : Int
  tk : Int
def up {α : Type} (f : Nat → α) (i : Nat) (x : α) : Nat → α := fun j => if j = i then x else f j
theorem up_same {α : Type} (f : Nat → α) (i : Nat) (x : α) : up f i x i = x := by simp [up]
theorem up_ne {α : Type} (f : Nat → α) {i j : Nat} (x : α) (h : j ≠ i) : up f i x j = f j := by simp [up, h]
theorem up_self {α : Type} (f : Nat → α) (i : Nat) : up f i (f i) = f := by
  funext j
  unfold up
  split
  · next h => rw [h]
  · rfl
theorem up_up {α : Type} (f : Nat → α) (i : Nat) (x y : α) : up (up f i x) i y = up f i y := by
  funext j
  unfold up
  split <;> rfl

/-- where the round begins -/
def fst (S : St) : Nat := if S.bgn then S.last else S.last + 1
def od (S : St) (k : Nat) : Nat := (fst S + k) % S.n
/-- the next stream -/
def nxt (S : St) : Option Nat := ((List.range S.n).find? fun k => !(S.R (od S k)).isEmpty).map (od S)
theorem od_lt {S : St} (h : 1 ≤ S.n) (k : Nat) : od S k < S.n := Nat.mod_lt _ h
theorem od_all {S : St} {i : Nat} (hi : i < S.n) : ∃ k, k < S.n ∧ od S k = i := by
  have hf : fst S % S.n < S.n := Nat.mod_lt _ (by omega)
  have e : ∀ k, od S k = (fst S % S.n + k) % S.n := fun k => by unfold od; rw [Nat.mod_add_mod]
  by_cases h : fst S % S.n ≤ i
  · refine ⟨i - fst S % S.n, by omega, ?_⟩
    rw [e, show fst S % S.n + (i - fst S % S.n) = i by omega, Nat.mod_eq_of_lt hi]
  · refine ⟨i + S.n - fst S % S.n, by omega, ?_⟩
    rw [e, show fst S % S.n + (i + S.n - fst S % S.n) = i + S.n by omega, Nat.add_mod_right, Nat.mod_eq_of_lt hi]
theorem find_first {p : Nat → Bool} : ∀ (n k : Nat), k < n → (∀ j, j < k → p j = false) → p k = true → (List.range n).find? p = some k := by
  intro n k hk hj hp
  rw [List.find?_range_eq_some]
  exact ⟨hp, List.mem_range.2 hk, fun j hjk => by rw [hj j hjk]; rfl⟩
theorem nxt_at {S : St} {k : Nat} (hk : k < S.n) (hj : ∀ j, j < k → S.R (od S j) = []) (hp : S.R (od S k) ≠ []) : nxt S = some (od S k) := by
  unfold nxt
  rw [find_first S.n k hk (fun j hjk => by rw [hj j hjk]; rfl) (by cases h : S.R (od S k) with | nil => exact absurd h hp | cons a l => rfl)]
  rfl
theorem nxt_end {S : St} (hj : ∀ j, j < S.n → S.R (od S j) = []) : nxt S = none := by
  unfold nxt
  rw [List.find?_eq_none.2 (fun k hk => by rw [hj k (List.mem_range.1 hk)]; decide)]
  rfl
theorem nxt_none {S : St} (h : nxt S = none) {i : Nat} (hi : i < S.n) : S.R i = [] := by
  unfold nxt at h
  rw [Option.map_eq_none_iff, List.find?_eq_none] at h
  obtain ⟨k, hk, rfl⟩ := od_all hi
  have := h k (List.mem_range.2 hk)
  cases e : S.R (od S k) with
  | nil => rfl
  | cons a l => rw [e] at this; exact absurd rfl this
theorem nxt_some {S : St} {i : Nat} (h1 : 1 ≤ S.n) (h : nxt S = some i) : i < S.n ∧ S.R i ≠ [] := by
  unfold nxt at h
  rw [Option.map_eq_some_iff] at h
  obtain ⟨k, hk, rfl⟩ := h
  refine ⟨od_lt h1 k, fun e => ?_⟩
  have := List.find?_some hk
  rw [e] at this
  cases this

def sz (L : List Rest) : Nat := (L.map fun r => r.d.length).sum
theorem sz_append (A B : List Rest) : sz (A ++ B) = sz A + sz B := by simp [sz]
theorem sz_cons (r : Rest) (B : List Rest) : sz (r :: B) = r.d.length + sz B := by simp [sz]
def tot (n : Nat) (R : Nat → List Rest) : Nat := ((List.range n).map fun i => sz (R i)).sum
theorem tot_succ (n : Nat) (R : Nat → List Rest) : tot (n + 1) R = tot n R + sz (R n) := by simp [tot, List.range_succ]
theorem tot_out (R : Nat → List Rest) (i : Nat) (L : List Rest) : ∀ n, n ≤ i → tot n (up R i L) = tot n R
  | 0, _ => rfl
  | n + 1, h => by rw [tot_succ, tot_succ, tot_out R i L n (by omega), up_ne _ _ (by omega)]
theorem tot_up (R : Nat → List Rest) (i : Nat) (L : List Rest) : ∀ n, i < n → tot n (up R i L) + sz (R i) = tot n R + sz L
  | n + 1, h => by
    rw [tot_succ, tot_succ]
    by_cases e : i = n
    · subst e
      rw [tot_out R i L i (Nat.le_refl _), up_same]
      omega
    · have := tot_up R i L n (by omega)
      rw [up_ne _ _ (fun h => e h.symm)]
      omega
theorem tot_ge (R : Nat → List Rest) (i : Nat) : ∀ n, i < n → sz (R i) ≤ tot n R
  | n + 1, h => by
    rw [tot_succ]
    by_cases e : i = n
    · subst e; omega
    · have := tot_ge R i n (by omega)
      omega
theorem tot_zero (R : Nat → List Rest) : ∀ n, (∀ i, i < n → R i = []) → tot n R = 0
  | 0, _ => rfl
  | n + 1, h => by rw [tot_succ, tot_zero R n (fun i hi => h i (by omega)), h n (by omega)]; rfl

/-- a rest's number, and the stream's next one, once it is begun -/
def nsn (r : Rest) (s : Int) : Int := if r.bg && !r.un then s else r.sn
def nx1 (r : Rest) (s : Int) : Int := if r.bg && !r.un then (s + 1) % 65536 else s
def cut (r : Rest) (s n : Int) : Pc := ⟨r.st, nsn r s, r.pr, r.un, r.d.take n.toNat, r.bg, decide ((r.d.length : Int) ≤ n)⟩
def left (r : Rest) (s n : Int) : List Rest := if (r.d.length : Int) ≤ n then [] else [⟨r.st, nsn r s, r.pr, r.un, r.d.drop n.toNat, false⟩]
def takeS (S : St) (i : Nat) (r : Rest) (rs : List Rest) (n : Int) : St :=
  ⟨S.n, S.lim, i, !decide ((r.d.length : Int) ≤ n), up S.R i (left r (S.sn i) n ++ rs), up S.sn i (nx1 r (S.sn i)), S.wt - (r.d.take n.toNat).length, S.tk + (r.d.take n.toNat).length⟩
def tak (S : St) (n : Int) : Option (Pc × St) :=
  if n < 1 then none else match nxt S with
    | none => none
    | some i => match S.R i with
      | [] => none
      | r :: rs => some (cut r (S.sn i) n, takeS S i r rs n)
def pushE (S : St) (s : Int) (d : List Int) : Int := if (S.n : Int) ≤ s then 160 else if d.length < 1 ∨ 65536 < d.length then 2 else if S.lim - (S.wt + S.tk) < d.length then 161 else 0
def pushS (S : St) (i : Nat) (pr : Int) (un : Bool) (d : List Int) : St := ⟨S.n, S.lim, S.last, S.bgn, up S.R i (S.R i ++ [⟨i, 0, pr, un, d, true⟩]), S.sn, S.wt + d.length, S.tk⟩
def freeE (S : St) (n : Int) : Int := if n < 0 ∨ S.tk < n then 5 else 0
def freeS (S : St) (n : Int) : St := ⟨S.n, S.lim, S.last, S.bgn, S.R, S.sn, S.wt, S.tk - n⟩
def newS (n : Nat) (lim : Int) : St := ⟨n, lim, n - 1, false, fun _ => [], fun _ => 0, 0, 0⟩

def OkR (i : Nat) (r : Rest) : Prop := r.st = i ∧ 0 ≤ r.sn ∧ r.sn < 65536 ∧ 0 ≤ r.pr ∧ r.pr < 4294967296 ∧ Bytes r.d ∧ 1 ≤ r.d.length ∧ r.d.length ≤ 65536
structure Good (S : St) : Prop where
  n1 : 1 ≤ S.n
  n2 : S.n ≤ 1024
  l1 : 1 ≤ S.lim
  l2 : S.lim ≤ 1073741824
  lt : S.last < S.n
  w0 : S.wt = tot S.n S.R
  t0 : 0 ≤ S.tk
  h : S.wt + S.tk ≤ S.lim
  sn : ∀ i, 0 ≤ S.sn i ∧ S.sn i < 65536
  ok : ∀ i r, i < S.n → r ∈ S.R i → OkR i r
  tl : ∀ i r, i < S.n → r ∈ (S.R i).tail → r.bg = true
  hd : ∀ i r, i < S.n → (S.R i).head? = some r → (r.bg = false ↔ (S.bgn = true ∧ S.last = i))
  bn : S.bgn = true → S.R S.last ≠ []
theorem Good.w1 {S : St} (h : Good S) : 0 ≤ S.wt := by rw [h.w0]; omega
theorem Good.new {n : Nat} {lim : Int} (h1 : 1 ≤ n) (h2 : n ≤ 1024) (h3 : 1 ≤ lim) (h4 : lim ≤ 1073741824) : Good (newS n lim) where
  n1 := h1
  n2 := h2
  l1 := h3
  l2 := h4
  lt := by show n - 1 < n; omega
  w0 := by
    show (0 : Int) = (tot n (fun _ => []) : Nat)
    rw [tot_zero _ _ (fun _ _ => rfl)]; rfl
  t0 := Int.le_refl 0
  h := by show (0 : Int) + 0 ≤ lim; omega
  sn := fun i => by show (0 : Int) ≤ 0 ∧ (0 : Int) < 65536; omega
  ok := fun i r _ hr => by cases hr
  tl := fun i r _ hr => by cases hr
  hd := fun i r _ hr => by cases hr
  bn := fun h => by cases h
theorem Good.nxt_bgn {S : St} (h : Good S) (hb : S.bgn = true) : nxt S = some S.last := by
  have e : od S 0 = S.last := by unfold od fst; rw [hb]; exact Nat.mod_eq_of_lt h.lt
  have := nxt_at (S := S) (k := 0) h.n1 (fun j hj => by omega) (by rw [e]; exact h.bn hb)
  rwa [e] at this
theorem Good.free {S : St} (h : Good S) {n : Int} (h1 : 0 ≤ n) (h2 : n ≤ S.tk) : Good (freeS S n) where
  n1 := h.n1
  n2 := h.n2
  l1 := h.l1
  l2 := h.l2
  lt := h.lt
  w0 := h.w0
  t0 := by show 0 ≤ S.tk - n; omega
  h := by show S.wt + (S.tk - n) ≤ S.lim; have := h.h; omega
  sn := h.sn
  ok := h.ok
  tl := h.tl
  hd := h.hd
  bn := h.bn
theorem Good.push {S : St} (h : Good S) {i : Nat} {pr : Int} {un : Bool} {d : List Int} (hi : i < S.n) (hp0 : 0 ≤ pr) (hp1 : pr < 4294967296) (hb : Bytes d) (h1 : 1 ≤ d.length) (h2 : d.length ≤ 65536) (hr : (d.length : Int) ≤ S.lim - (S.wt + S.tk)) : Good (pushS S i pr un d) where
  n1 := h.n1
  n2 := h.n2
  l1 := h.l1
  l2 := h.l2
  lt := h.lt
  w0 := by
    show S.wt + d.length = (tot S.n (up S.R i (S.R i ++ [⟨i, 0, pr, un, d, true⟩])) : Nat)
    have e := tot_up S.R i (S.R i ++ [⟨i, 0, pr, un, d, true⟩]) S.n hi
    rw [sz_append, sz_cons] at e
    simp only [sz, List.map_nil, List.sum_nil] at e
    have := h.w0
    omega
  t0 := h.t0
  h := by show S.wt + d.length + S.tk ≤ S.lim; omega
  sn := h.sn
  ok := fun j r hj hr => by
    change r ∈ up S.R i _ j at hr
    by_cases e : j = i
    · subst e
      rw [up_same] at hr
      rcases List.mem_append.1 hr with h' | h'
      · exact h.ok j r hj h'
      · rw [List.mem_singleton] at h'
        subst h'
        exact ⟨rfl, by simp, by simp, hp0, hp1, hb, h1, h2⟩
    · rw [up_ne _ _ e] at hr
      exact h.ok j r hj hr
  tl := fun j r hj hr => by
    change r ∈ (up S.R i _ j).tail at hr
    by_cases e : j = i
    · subst e
      rw [up_same] at hr
      cases hR : S.R j with
      | nil => rw [hR] at hr; cases hr
      | cons a l =>
        rw [hR] at hr
        rcases List.mem_append.1 (show r ∈ l ++ _ from hr) with h' | h'
        · exact h.tl j r hj (by rw [hR]; exact h')
        · rw [List.mem_singleton] at h'
          subst h'
          rfl
    · rw [up_ne _ _ e] at hr
      exact h.tl j r hj hr
  hd := fun j r hj hr => by
    change (up S.R i _ j).head? = some r at hr
    show r.bg = false ↔ (S.bgn = true ∧ S.last = j)
    by_cases e : j = i
    · subst e
      rw [up_same] at hr
      cases hR : S.R j with
      | nil =>
        rw [hR] at hr
        cases hr
        refine ⟨(fun h => by cases h), fun hh => ?_⟩
        have := h.bn hh.1
        rw [hh.2, hR] at this
        exact absurd rfl this
      | cons a l =>
        rw [hR] at hr
        exact h.hd j r hj (by rw [hR]; exact hr)
    · rw [up_ne _ _ e] at hr
      exact h.hd j r hj hr
  bn := fun hb' => by
    show up S.R i _ S.last ≠ []
    by_cases e : S.last = i
    · rw [e, up_same]; simp
    · rw [up_ne _ _ e]; exact h.bn hb'
theorem nsn_in {S : St} (h : Good S) {i : Nat} {r : Rest} (hk : OkR i r) : 0 ≤ nsn r (S.sn i) ∧ nsn r (S.sn i) < 65536 := by
  unfold nsn
  split
  · exact h.sn i
  · exact ⟨hk.2.1, hk.2.2.1⟩
theorem nx1_in {s : Int} (h : 0 ≤ s ∧ s < 65536) (r : Rest) : 0 ≤ nx1 r s ∧ nx1 r s < 65536 := by
  unfold nx1
  split <;> omega
theorem left_all {r : Rest} {s n : Int} (h : (r.d.length : Int) ≤ n) : left r s n = [] := if_pos h
theorem left_some {r : Rest} {s n : Int} (h : ¬ (r.d.length : Int) ≤ n) : left r s n = [⟨r.st, nsn r s, r.pr, r.un, r.d.drop n.toNat, false⟩] := if_neg h
theorem left_sz (r : Rest) (s n : Int) : sz (left r s n) + (r.d.take n.toNat).length = r.d.length := by
  by_cases h : (r.d.length : Int) ≤ n
  · rw [left_all h, List.length_take]; simp only [sz, List.map_nil, List.sum_nil]; omega
  · rw [left_some h, sz_cons, List.length_take, List.length_drop]; simp only [sz, List.map_nil, List.sum_nil]; omega
theorem Good.take {S : St} (h : Good S) {i : Nat} {r : Rest} {rs : List Rest} {n : Int} (hx : nxt S = some i) (hR : S.R i = r :: rs) (hn : 1 ≤ n) : Good (takeS S i r rs n) := by
  obtain ⟨hi, _⟩ := nxt_some h.n1 hx
  have hok : OkR i r := h.ok i r hi (by rw [hR]; exact List.mem_cons_self ..)
  have hother : ∀ j, j < S.n → j ≠ i → ¬ (S.bgn = true ∧ S.last = j) := fun j hj hne hh => by
    have := h.nxt_bgn hh.1
    rw [hx] at this
    cases this
    exact hne hh.2.symm
  refine ⟨h.n1, h.n2, h.l1, h.l2, hi, ?_, ?_, ?_, ?_, ?_, ?_, ?_, ?_⟩
  · show S.wt - (r.d.take n.toNat).length = (tot S.n (up S.R i (left r (S.sn i) n ++ rs)) : Nat)
    have e := tot_up S.R i (left r (S.sn i) n ++ rs) S.n hi
    rw [hR, sz_append, sz_cons] at e
    have := left_sz r (S.sn i) n
    have := h.w0
    omega
  · show 0 ≤ S.tk + (r.d.take n.toNat).length
    have := h.t0
    omega
  · show S.wt - (r.d.take n.toNat).length + (S.tk + (r.d.take n.toNat).length) ≤ S.lim
    have := h.h
    omega
  · intro j
    show 0 ≤ up S.sn i _ j ∧ up S.sn i _ j < 65536
    by_cases e : j = i
    · rw [e, up_same]; exact nx1_in (h.sn i) r
    · rw [up_ne _ _ e]; exact h.sn j
  · intro j x hj hm
    change x ∈ up S.R i _ j at hm
    by_cases e : j = i
    · subst e
      rw [up_same] at hm
      rcases List.mem_append.1 hm with h' | h'
      · by_cases hl : (r.d.length : Int) ≤ n
        · rw [left_all hl] at h'; cases h'
        · rw [left_some hl, List.mem_singleton] at h'
          subst h'
          have hs := nsn_in h hok
          obtain ⟨a1, a2, a3, a4, a5, a6, a7, a8⟩ := hok
          refine ⟨a1, hs.1, hs.2, a4, a5, a6.drop _, ?_, ?_⟩
          · simp only [List.length_drop]; omega
          · simp only [List.length_drop]; omega
      · exact h.ok j x hj (by rw [hR]; exact List.mem_cons_of_mem _ h')
    · rw [up_ne _ _ e] at hm
      exact h.ok j x hj hm
  · intro j x hj hm
    change x ∈ (up S.R i _ j).tail at hm
    by_cases e : j = i
    · subst e
      rw [up_same] at hm
      have : x ∈ rs := by
        by_cases hl : (r.d.length : Int) ≤ n
        · rw [left_all hl] at hm; exact List.mem_of_mem_tail hm
        · rw [left_some hl] at hm; exact hm
      exact h.tl j x hj (by rw [hR]; exact this)
    · rw [up_ne _ _ e] at hm
      exact h.tl j x hj hm
  · intro j x hj hm
    change (up S.R i _ j).head? = some x at hm
    show x.bg = false ↔ ((!decide ((r.d.length : Int) ≤ n)) = true ∧ i = j)
    by_cases e : j = i
    · subst e
      rw [up_same] at hm
      by_cases hl : (r.d.length : Int) ≤ n
      · rw [left_all hl] at hm
        have hx' : x ∈ (S.R j).tail := by rw [hR]; exact List.mem_of_head? hm
        rw [h.tl j x hj hx']
        simp [hl]
      · rw [left_some hl] at hm
        cases hm
        simp [hl]
    · rw [up_ne _ _ e] at hm
      have hx' := h.hd j x hj hm
      constructor
      · intro hb
        exact absurd (hx'.1 hb) (hother j hj e)
      · rintro ⟨_, rfl⟩
        exact absurd rfl e
  · intro hb
    show up S.R i _ i ≠ []
    rw [up_same]
    have hl : ¬ (r.d.length : Int) ≤ n := by
      change (!decide ((r.d.length : Int) ≤ n)) = true at hb
      simpa using hb
    rw [left_some hl]
    simp
/-- what one call of Take comes to -/
theorem tak_cases (S : St) (n : Int) : (tak S n = none ∧ (n < 1 ∨ nxt S = none)) ∨ (∃ i r rs, 1 ≤ n ∧ nxt S = some i ∧ S.R i = r :: rs ∧ tak S n = some (cut r (S.sn i) n, takeS S i r rs n)) ∨ (∃ i, nxt S = some i ∧ S.R i = []) := by
  unfold tak
  by_cases h : n < 1
  · rw [if_pos h]; exact .inl ⟨rfl, .inl h⟩
  · rw [if_neg h]
    cases hx : nxt S with
    | none => exact .inl ⟨rfl, .inr rfl⟩
    | some i =>
      cases hR : S.R i with
      | nil => exact .inr (.inr ⟨i, rfl, hR⟩)
      | cons r rs => exact .inr (.inl ⟨i, r, rs, by omega, rfl, hR, by simp [hR]⟩)
theorem Good.len {S : St} (h : Good S) {i : Nat} (hi : i < S.n) : (S.R i).length ≤ 1073741824 := by
  have h1 : ∀ L : List Rest, (∀ r ∈ L, 1 ≤ r.d.length) → L.length ≤ sz L := by
    intro L
    induction L with
    | nil => intro _; exact Nat.zero_le _
    | cons a l ih =>
      intro hh
      have h1 := hh a (List.mem_cons_self ..)
      have h2 := ih (fun r hr => hh r (List.mem_cons_of_mem _ hr))
      rw [sz_cons, List.length_cons]
      omega
  have h2 := h1 (S.R i) (fun r hr => (h.ok i r hi hr).2.2.2.2.2.2.1)
  have h3 := tot_ge S.R i S.n hi
  have := h.w0
  have := h.h
  have := h.t0
  have := h.l2
  omega
end Go.Proofs.Ytfgoamfoddkafaa.Sq
