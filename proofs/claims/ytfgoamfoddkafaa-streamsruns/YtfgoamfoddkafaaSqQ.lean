/-
  The document's list of messages, held against what is left by streams.
  Conditions: as at each lemma.
-/
import Derived.Test.YtfgoamfoddkafaaSqL
namespace Go.Proofs.Ytfgoamfoddkafaa.Sq
set_option linter.unusedVariables false

/-- a message that waits -/
structure Ent where
  st : Int
  sn : Int
  pr : Int
  un : Bool
  d : List Int
  at_ : Nat
  v : Value
def rst (e : Ent) : Rest := ⟨e.st, e.sn, e.pr, e.un, e.d.drop e.at_, decide (e.at_ = 0)⟩
def isE (i : Nat) (e : Ent) : Bool := e.st == (i : Int)
structure OkE (n : Nat) (e : Ent) : Prop where
  s0 : 0 ≤ e.st
  s1 : e.st < n
  a : e.at_ < e.d.length
  l : e.d.length ≤ 65536
def lE (e : Ent) : Nat := e.d.length - e.at_
def sE (Q : List Ent) : Nat := (Q.map lE).sum
theorem sE_app (A B : List Ent) : sE (A ++ B) = sE A + sE B := by simp [sE]
theorem sE_cons (e : Ent) (B : List Ent) : sE (e :: B) = lE e + sE B := by simp [sE]
theorem sE_one (e : Ent) : sE [e] = lE e := by simp [sE]
structure Rel (S : St) (Q : List Ent) (rl : Int) : Prop where
  m : ∀ i, i < S.n → (Q.filter (isE i)).map rst = S.R i
  k : ∀ e ∈ Q, OkE S.n e
  w : S.wt = sE Q
  l : rl = S.last ∨ (rl = -1 ∧ S.last + 1 = S.n ∧ S.bgn = false)
theorem Rel.new {n : Nat} (hn : 1 ≤ n) (lim : Int) : Rel (newS n lim) [] (-1) :=
  ⟨(fun i hi => rfl), (fun e he => by cases he), rfl, .inr ⟨rfl, by show n - 1 + 1 = n; omega, rfl⟩⟩
theorem Rel.free {S : St} {Q : List Ent} {rl : Int} (h : Rel S Q rl) (n : Int) : Rel (freeS S n) Q rl := ⟨h.m, h.k, h.w, h.l⟩
theorem isE_self {i : Nat} {e : Ent} (h : e.st = (i : Int)) : isE i e = true := by unfold isE; rw [h]; simp
theorem isE_st {i : Nat} {e : Ent} (h : isE i e = true) : e.st = (i : Int) := by unfold isE at h; simpa using h
theorem isE_no {i : Nat} {e : Ent} (h : ¬ e.st = (i : Int)) : isE i e = false := by unfold isE; simpa using h
theorem isE_ne {i j : Nat} {e : Ent} (h : isE i e = true) (hne : j ≠ i) : isE j e = false := isE_no (by rw [isE_st h]; omega)
theorem Rel.push {S : St} {Q : List Ent} {rl : Int} (h : Rel S Q rl) {i : Nat} (hi : i < S.n) (pr : Int) (un : Bool) {d : List Int} (h1 : 1 ≤ d.length) (h2 : d.length ≤ 65536) (v : Value) : Rel (pushS S i pr un d) (Q ++ [⟨i, 0, pr, un, d, 0, v⟩]) rl := by
  refine ⟨fun j hj => ?_, fun e he => ?_, ?_, h.l⟩
  · show _ = up S.R i _ j
    rw [List.filter_append, List.map_append, h.m j hj]
    by_cases e : j = i
    · subst e
      rw [up_same, List.filter_cons_of_pos (isE_self rfl)]
      rfl
    · rw [up_ne _ _ e, List.filter_cons_of_neg (by rw [isE_no (by show ¬ (i : Int) = j; omega)]; decide)]
      simp
  · rcases List.mem_append.1 he with h' | h'
    · exact h.k e h'
    · rw [List.mem_singleton] at h'
      subst h'
      exact ⟨by show (0 : Int) ≤ i; omega, by show (i : Int) < S.n; omega, h1, h2⟩
  · show S.wt + d.length = _
    rw [h.w, sE_app, sE_one]
    show _ = ((sE Q + (d.length - 0) : Nat) : Int)
    omega
theorem Rel.count {S : St} {Q : List Ent} {rl : Int} (h : Rel S Q rl) {i : Nat} (hi : i < S.n) : (Q.filter (isE i)).length = (S.R i).length := by
  rw [← h.m i hi, List.length_map]
theorem Rel.none {S : St} {Q : List Ent} {rl : Int} (h : Rel S Q rl) {i : Nat} (hi : ¬ i < S.n) : (Q.filter (isE i)).length = 0 := by
  rw [List.filter_eq_nil_iff.2 (fun e he => ?_)]
  · rfl
  · have := h.k e he
    have h1 := this.s0
    have h2 := this.s1
    rw [isE_no (by omega)]
    decide
/-- what next tells -/
def NextO (S : St) (Q : List Ent) (p : Int) : Prop :=
  (nxt S = none ∧ p = -1) ∨ ∃ i A e B, nxt S = some i ∧ Q = A ++ e :: B ∧ (∀ y ∈ A, isE i y = false) ∧ isE i e = true ∧ p = (A.length : Int)
theorem Rel.at {S : St} {A B : List Ent} {e : Ent} {rl : Int} (h : Rel S (A ++ e :: B) rl) {i : Nat} (hi : i < S.n) (hA : ∀ y ∈ A, isE i y = false) (he : isE i e = true) : S.R i = rst e :: (B.filter (isE i)).map rst := by
  rw [← h.m i hi, List.filter_append, List.filter_eq_nil_iff.2 (fun y hy => by rw [hA y hy]; decide), List.nil_append, List.filter_cons_of_pos he]
  rfl
theorem Rel.begun {S : St} {A B : List Ent} {e : Ent} {rl : Int} (h : Rel S (A ++ e :: B) rl) (hg : Good S) (ha : 0 < e.at_) : NextO S (A ++ e :: B) (A.length : Int) := by
  have hk := h.k e (by simp)
  obtain ⟨i, hi⟩ : ∃ i : Nat, e.st = (i : Int) := ⟨e.st.toNat, by have := hk.s0; omega⟩
  have hin : i < S.n := by have := hk.s1; omega
  have hb : (rst e).bg = false := by show decide (e.at_ = 0) = false; simp; omega
  have hm := h.m i hin
  rw [List.filter_append, List.filter_cons_of_pos (isE_self hi), List.map_append, List.map_cons] at hm
  have hA : A.filter (isE i) = [] := by
    cases hf : A.filter (isE i) with
    | nil => rfl
    | cons a l =>
      rw [hf, List.map_cons, List.cons_append] at hm
      have := hg.tl i (rst e) hin (by rw [← hm]; simp)
      rw [hb] at this
      cases this
  rw [hA, List.map_nil, List.nil_append] at hm
  have hd := (hg.hd i (rst e) hin (by rw [← hm]; rfl)).1 hb
  refine .inr ⟨i, A, e, B, ?_, rfl, fun y hy => ?_, isE_self hi, rfl⟩
  · rw [hg.nxt_bgn hd.1, hd.2]
  · have := List.filter_eq_nil_iff.1 hA y hy
    simpa using this
theorem Rel.calm {S : St} {Q : List Ent} {rl : Int} (h : Rel S Q rl) (hg : Good S) (ha : ∀ e ∈ Q, e.at_ = 0) : S.bgn = false := by
  cases hb : S.bgn with
  | false => rfl
  | true =>
    exfalso
    have hne := hg.bn hb
    cases hR : S.R S.last with
    | nil => exact hne hR
    | cons r rs =>
      have h1 := (hg.hd S.last r hg.lt (by rw [hR]; rfl)).2 ⟨hb, rfl⟩
      have hm := h.m S.last hg.lt
      rw [hR] at hm
      have : r ∈ (Q.filter (isE S.last)).map rst := by rw [hm]; exact List.mem_cons_self ..
      obtain ⟨e, he, hr⟩ := List.mem_map.1 this
      have h2 := ha e (List.mem_filter.1 he).1
      rw [← hr] at h1
      change decide (e.at_ = 0) = false at h1
      rw [h2] at h1
      cases h1
theorem Rel.turn {S : St} {Q : List Ent} {rl : Int} (h : Rel S Q rl) (hg : Good S) (hb : S.bgn = false) {k : Nat} (hk : k < S.n) : (rl + ((k : Int) + 1)).tmod (S.n : Int) = (od S k : Int) ∧ 0 ≤ rl + ((k : Int) + 1) ∧ rl + ((k : Int) + 1) ≤ 2048 := by
  have h1 := hg.n2
  have h2 := hg.lt
  have e : od S k = (S.last + 1 + k) % S.n := by unfold od fst; rw [hb]; rfl
  rcases h.l with h' | ⟨h', h3, _⟩
  · refine ⟨?_, by omega, by omega⟩
    rw [Int.tmod_eq_emod_of_nonneg (by omega), e, h']
    push_cast
    congr 1
    omega
  · refine ⟨?_, by omega, by omega⟩
    rw [Int.tmod_eq_emod_of_nonneg (by omega), e, h', h3, Nat.add_mod_left]
    push_cast
    congr 1
    omega
theorem Rel.empty {S : St} {Q : List Ent} {rl : Int} (h : Rel S Q rl) {i : Nat} (hi : i < S.n) (hn : ∀ e ∈ Q, ¬ e.st = (i : Int)) : S.R i = [] := by
  rw [← h.m i hi, List.filter_eq_nil_iff.2 (fun e he => by rw [isE_no (hn e he)]; decide)]
  rfl
/-- behind a piece -/
def entN (e : Ent) (s : Int) (n : Int) : Ent := ⟨e.st, nsn (rst e) s, e.pr, e.un, e.d, e.at_ + min n.toNat (e.d.length - e.at_), e.v⟩
def restQ (e : Ent) (s n : Int) : List Ent := if ((e.d.length - e.at_ : Nat) : Int) ≤ n then [] else [entN e s n]
theorem Rel.take {S : St} {A B : List Ent} {e : Ent} {rl : Int} (h : Rel S (A ++ e :: B) rl) (hg : Good S) {i : Nat} (hx : nxt S = some i) (hA : ∀ y ∈ A, isE i y = false) (he : isE i e = true) {n : Int} (hn : 1 ≤ n) :
    Rel (takeS S i (rst e) ((B.filter (isE i)).map rst) n) (A ++ (restQ e (S.sn i) n ++ B)) (if e.at_ = 0 then (i : Int) else rl) := by
  obtain ⟨hi, _⟩ := nxt_some hg.n1 hx
  have hk := h.k e (by simp)
  have hR := h.at hi hA he
  have hl : (rst e).d.length = e.d.length - e.at_ := List.length_drop
  have hsum : lE e = (e.d.length - e.at_) := rfl
  have hrest : sE (restQ e (S.sn i) n) + ((rst e).d.take n.toNat).length = e.d.length - e.at_ := by
    unfold restQ
    rw [List.length_take, hl]
    split
    · simp [sE]; omega
    · rw [sE_one]
      show e.d.length - (e.at_ + min n.toNat (e.d.length - e.at_)) + _ = _
      omega
  have hfilt : ∀ j, ((restQ e (S.sn i) n).filter (isE j)).map rst = if j = i then left (rst e) (S.sn i) n else [] := fun j => by
    unfold restQ left
    rw [hl]
    by_cases hle : ((e.d.length - e.at_ : Nat) : Int) ≤ n
    · rw [if_pos hle, if_pos hle]; split <;> rfl
    · rw [if_neg hle, if_neg hle]
      by_cases ej : j = i
      · subst ej
        rw [if_pos rfl, List.filter_cons_of_pos (isE_self (e := entN e (S.sn j) n) (isE_st he))]
        have hm : min n.toNat (e.d.length - e.at_) = n.toNat := by omega
        show [(⟨e.st, nsn (rst e) (S.sn j), e.pr, e.un, e.d.drop (e.at_ + min n.toNat (e.d.length - e.at_)), decide (e.at_ + min n.toNat (e.d.length - e.at_) = 0)⟩ : Rest)] = [⟨e.st, nsn (rst e) (S.sn j), e.pr, e.un, (e.d.drop e.at_).drop n.toNat, false⟩]
        rw [hm, List.drop_drop, decide_eq_false (by omega)]
      · rw [if_neg ej, List.filter_cons_of_neg (by rw [isE_no (by show ¬ e.st = _; rw [isE_st he]; omega)]; decide)]
        rfl
  refine ⟨fun j hj => ?_, fun y hy => ?_, ?_, ?_⟩
  · show _ = up S.R i _ j
    rw [List.filter_append, List.filter_append, List.map_append, List.map_append, hfilt j]
    have hm := h.m j hj
    rw [List.filter_append, List.map_append] at hm
    by_cases ej : j = i
    · subst ej
      rw [up_same, if_pos rfl, List.filter_eq_nil_iff.2 (fun y hy => by rw [hA y hy]; decide)]
      rfl
    · rw [up_ne _ _ ej, if_neg ej, List.nil_append, ← hm, List.filter_cons_of_neg (by rw [isE_ne he ej]; decide)]
  · rcases List.mem_append.1 hy with h' | h'
    · exact h.k y (by simp [h'])
    · rcases List.mem_append.1 h' with h' | h'
      · unfold restQ at h'
        split at h'
        · cases h'
        · next hle =>
          rw [List.mem_singleton] at h'
          subst h'
          exact ⟨hk.s0, hk.s1, by show e.at_ + min n.toNat (e.d.length - e.at_) < e.d.length; omega, hk.l⟩
      · exact h.k y (by simp [h'])
  · show S.wt - ((rst e).d.take n.toNat).length = _
    rw [h.w, sE_app, sE_cons, sE_app, sE_app]
    rw [hsum]
    omega
  · by_cases ha : e.at_ = 0
    · rw [if_pos ha]; exact .inl rfl
    · rw [if_neg ha]
      have hb : (rst e).bg = false := by show decide (e.at_ = 0) = false; simp [ha]
      have hd := (hg.hd i (rst e) hi (by rw [hR]; rfl)).1 hb
      rcases h.l with h' | ⟨_, _, h3⟩
      · exact .inl (by rw [h', hd.2]; rfl)
      · rw [hd.1] at h3; cases h3
end Go.Proofs.Ytfgoamfoddkafaa.Sq
