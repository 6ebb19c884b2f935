/-
  Boxes as values: what came, what of it is fixed, duplicates; each call as a function of the box.
  Conditions: as at each lemma.
-/
import Derived.Test.YtdifceikfnnfeaaDoorSpSet
namespace Go.Proofs.YtdifceikfnnfeaaDoor.Sp.Inb

set_option linter.unusedVariables false

/-- the number at a distance -/
def ts (c d : Nat) : Nat := (c + d) % 4294967296
/-- how far a number is -/
def ds (c t : Nat) : Int := Ser.dist 4294967296 (c : Int) (t : Int)
theorem ts_lt (c d : Nat) : ts c d < 4294967296 := Nat.mod_lt _ (by decide)
theorem ds_ts (c d : Nat) (hc : c < 4294967296) (hd : d < 2147483648) : ds c (ts c d) = d := by
  unfold ds ts Ser.dist
  split <;> omega
theorem ts_ds (c t : Nat) (hc : c < 4294967296) (ht : t < 4294967296) (h : 0 ≤ ds c t) : ts c (ds c t).toNat = t := by
  revert h
  unfold ds ts Ser.dist
  split <;> omega
theorem ts_ts (c n d : Nat) (h : n ≤ d) : ts (ts c n) (d - n) = ts c d := by unfold ts; omega
theorem ds_shift (c n d : Nat) (hc : c < 4294967296) (hd : d < 65536) (hn : n < 65536 + 65536) : ds (ts c n) (ts c d) = (d : Int) - n := by
  unfold ds ts Ser.dist
  split <;> omega

/-- what is above, from another cum on -/
def sh (n : Nat) (F : List Nat) : List Nat := (F.filter fun x => decide (n < x)).map (· - n)
theorem mem_sh (n x : Nat) (F : List Nat) : x ∈ sh n F ↔ 0 < x ∧ x + n ∈ F := by
  unfold sh
  simp only [List.mem_map, List.mem_filter, decide_eq_true_eq]
  constructor
  · rintro ⟨y, ⟨h1, h2⟩, rfl⟩; exact ⟨by omega, by rw [show y - n + n = y by omega]; exact h1⟩
  · rintro ⟨h1, h2⟩; exact ⟨x + n, ⟨h2, by omega⟩, by omega⟩
theorem up_sh (n : Nat) {F : List Nat} (h : Up F) : Up (sh n F) := by
  unfold sh Up
  rw [List.pairwise_map]
  refine (List.Pairwise.filter _ h).imp_of_mem ?_
  intro a b ha hb hab
  have h1 := of_decide_eq_true (List.mem_filter.1 ha).2
  have h2 := of_decide_eq_true (List.mem_filter.1 hb).2
  omega
theorem good_sh {n : Nat} {F : List Nat} (h : Good 2 F) (hn : n + 1 ∉ F) : Good 2 (sh n F) := by
  refine ⟨up_sh n h.1, fun d hd => ?_⟩
  obtain ⟨h1, h2⟩ := (mem_sh _ _ _).1 hd
  have := h.2 _ h2
  refine ⟨?_, by omega⟩
  rcases Nat.lt_or_ge d 2 with h3 | h3
  · exfalso; apply hn; rw [show n + 1 = d + n by omega]; exact h2
  · exact h3
theorem sh_zero {F : List Nat} (h : Good 2 F) : sh 0 F = F := by
  unfold sh
  rw [List.filter_eq_self.2 (fun x hx => by have := h.2 x hx; simp; omega)]
  simp
theorem sh_sh (m k : Nat) (F : List Nat) : sh m (sh k F) = sh (k + m) F := by
  unfold sh
  rw [List.filter_map, List.map_map, List.filter_filter]
  congr 1
  · funext x; simp only [Function.comp]; omega
  · refine List.filter_congr fun x _ => ?_
    simp only [Function.comp, ← Bool.decide_and]
    exact decide_eq_decide.2 (by omega)
theorem len_sh (n : Nat) (F : List Nat) : (sh n F).length ≤ F.length := by unfold sh; rw [List.length_map]; exact List.length_filter_le _ _
/-- what is behind those that stand side by side -/
theorem drop_filter {X : List Nat} (h : Good 1 X) (k : Nat) (hk : k ≤ lead X 0) : X.drop k = X.filter fun x => decide (k < x) := by
  conv => rhs; rw [← List.take_append_drop k X]
  rw [List.filter_append, List.filter_eq_nil_iff.2, List.nil_append, List.filter_eq_self.2]
  · intro x hx; have := lead_drop h k hk x hx; simp; omega
  · intro x hx
    obtain ⟨i, hi, rfl⟩ := List.mem_iff_getElem.1 hx
    rw [List.length_take] at hi
    have := lead_at X 0 i (by omega)
    rw [List.getElem?_eq_getElem (by omega)] at this
    have e := Option.some.inj this
    rw [List.getElem_take, e]
    simp; omega
theorem back_sh {X : List Nat} (h : Good 1 X) (k : Nat) (hk : k ≤ lead X 0) : back k X = sh k X := by unfold back sh; rw [drop_filter h k hk]
theorem addL_sh {d : Nat} {L : List Nat} (h : Good 2 L) (h1 : 1 ≤ d) (h2 : d ≤ 65535) (hd : d ∉ L) : addL d L = sh (addN d L) (ins d L) :=
  back_sh (good_ins h hd ⟨h1, h2⟩ (by decide)) _ (Nat.le_refl _)
theorem ins_cons {x d : Nat} {xs : List Nat} : ins d (x :: xs) = if d < x then d :: x :: xs else x :: ins d xs := by rw [ins]
theorem ins_low {d : Nat} {L : List Nat} (h : ∀ x ∈ L, d < x) : ins d L = d :: L := by
  cases L with
  | nil => rfl
  | cons x xs => rw [ins, if_pos (h x (by simp))]
theorem ins_high {d : Nat} : ∀ {L : List Nat}, (∀ x ∈ L, x < d) → ins d L = L ++ [d]
  | [], _ => rfl
  | x :: xs, h => by
    rw [ins, if_neg (by have := h x (by simp); omega), ins_high fun y hy => h y (by simp [hy])]
    rfl
theorem lead_two {X : List Nat} (h : ∀ x ∈ X, 2 ≤ x) : lead X 0 = 0 := by
  cases X with
  | nil => rfl
  | cons x xs => have := h x (by simp); simp only [lead]; rw [if_neg (by omega)]
/-- one that is fixed: nothing runs on -/
theorem add_two {d : Nat} {L : List Nat} (h : Good 2 L) (h1 : 2 ≤ d) : addN d L = 0 ∧ addL d L = ins d L := by
  have hN : addN d L = 0 := lead_two fun x hx => ((mem_ins d x L).1 hx).elim (fun e => by omega) fun e => (h.2 x e).1
  refine ⟨hN, ?_⟩
  unfold addL back
  rw [hN]
  simp
theorem good_ins2 {d : Nat} {L : List Nat} (h : Good 2 L) (hd : d ∉ L) (h1 : 2 ≤ d) (h2 : d ≤ 65535) : Good 2 (ins d L) :=
  ⟨up_ins d L h.1 hd, fun e he => ((mem_ins d e L).1 he).elim (fun k => by omega) fun k => h.2 e k⟩
theorem add_pos {d : Nat} {L : List Nat} (h1 : 1 ≤ d) (h : Good 2 L) (hd : d ∉ L) (h2 : d ≤ 65535) : (addN d L = 0 ↔ d ≠ 1) := by
  constructor
  · intro h0 e
    subst e
    unfold addN at h0
    rw [ins_low fun x hx => by have := h.2 x hx; omega] at h0
    simp [lead] at h0
  · intro h3
    exact (add_two h (by omega)).1
/-- all up to there are in, the next one isn't -/
theorem in_run {X : List Nat} (h : Good 1 X) {i : Nat} (h1 : 1 ≤ i) (h2 : i ≤ lead X 0) : i ∈ X := by
  have := lead_at X 0 (i - 1) (by omega)
  rw [show 0 + (i - 1) + 1 = i by omega] at this
  exact List.mem_of_getElem? this
theorem out_run {X : List Nat} (h : Good 1 X) : lead X 0 + 1 ∉ X := fun hm => by
  have h0 := back_stop h
  apply h0
  rw [back_sh h _ (Nat.le_refl _), mem_sh]
  exact ⟨by decide, by rw [Nat.add_comm]; exact hm⟩
/-- one step of following -/
theorem follow_step {d k : Nat} {L F : List Nat} (hL : Good 2 L) (hF : Good 2 F) (hs : ∀ x ∈ F, x ∈ L) (h1 : 1 ≤ d) (h2 : d ≤ 65535) (hd : d ∉ L) (hk : k < addN d L) (hg : Good 2 (sh k F)) :
    ∃ m, addN 1 (sh k F) = m ∧ 1 ≤ m ∧ k + m ≤ addN d L ∧ addL 1 (sh k F) = sh (k + m) F := by
  have hG := good_ins hL hd ⟨h1, h2⟩ (by decide)
  have h0 : 1 ∉ sh k F := fun h => by have := hg.2 1 h; omega
  have hI : ins 1 (sh k F) = 1 :: sh k F := ins_low fun x hx => by have := hg.2 x hx; omega
  have hG1 : Good 1 (ins 1 (sh k F)) := good_ins hg h0 (by decide) (by decide)
  have hm1 : 1 ≤ addN 1 (sh k F) := by
    have := (add_pos (d := 1) (by decide) hg h0 (by decide)); omega
  refine ⟨_, rfl, hm1, ?_, ?_⟩
  · refine Nat.le_of_not_lt fun hlt => ?_
    apply out_run hG
    show addN d L + 1 ∈ _
    have hin := in_run hG1 (i := addN d L + 1 - k) (by omega) (by unfold addN at hlt ⊢; omega)
    rw [hI] at hin
    rcases List.mem_cons.1 hin with e | e
    · omega
    · have := ((mem_sh _ _ _).1 e).2
      rw [show addN d L + 1 - k + k = addN d L + 1 by omega] at this
      exact (mem_ins _ _ _).2 (.inr (hs _ this))
  · rw [addL_sh hg (by decide) (by decide) h0, ← sh_sh]
    generalize addN 1 (sh k F) = m at hm1
    rw [hI]
    unfold sh
    rw [List.filter_cons_of_neg (by simp; omega)]
theorem add_lead_le {d : Nat} {L : List Nat} (h : Good 2 L) : addN d L ≤ 65537 := by
  have := lead_le (ins d L) 0
  rw [length_ins] at this
  have := good_len h
  unfold addN; omega
theorem addN_bound {d : Nat} {L : List Nat} (h : Good 2 L) (h1 : 1 ≤ d) (h2 : d ≤ 65535) (hd : d ∉ L) : addN d L ≤ 65535 := by
  have hG := good_ins h hd ⟨h1, h2⟩ (by decide)
  rcases Nat.eq_zero_or_pos (addN d L) with e | e
  · omega
  · exact (hG.2 _ (in_run hG e (Nat.le_refl _))).2
/-- what of a part is in the whole: the part -/
theorem sub_filter : ∀ {L F : List Nat}, Up L → Up F → (∀ x ∈ F, x ∈ L) → L.filter (fun x => decide (x ∈ F)) = F
  | [], F, _, _, h => by
    cases F with
    | nil => rfl
    | cons x xs => exact absurd (h x (by simp)) (by simp)
  | x :: xs, F, hL, hF, h => by
    obtain ⟨h1, h2⟩ := List.pairwise_cons.1 hL
    cases F with
    | nil => simp
    | cons y ys =>
      obtain ⟨h3, h4⟩ := List.pairwise_cons.1 hF
      by_cases e : y = x
      · subst e
        rw [List.filter_cons_of_pos (by simp)]
        congr 1
        have ih := sub_filter h2 h4 fun z hz => by
          rcases List.mem_cons.1 (h z (by simp [hz])) with k | k
          · have := h3 z hz; omega
          · exact k
        rw [← ih]
        rw [ih]
        refine (List.filter_congr fun z hz => ?_).trans ih
        have := h1 z hz
        exact decide_eq_decide.2 ⟨fun k => (List.mem_cons.1 k).resolve_left (by omega), fun k => List.mem_cons_of_mem _ k⟩
      · have hy : y ∈ xs := (List.mem_cons.1 (h y (by simp))).resolve_left e
        have := h1 y hy
        rw [List.filter_cons_of_neg]
        · refine sub_filter h2 hF fun z hz => ?_
          rcases List.mem_cons.1 (h z hz) with k | k
          · subst k
            rcases List.mem_cons.1 hz with k2 | k2
            · omega
            · have := h3 _ k2; omega
          · exact k
        · simp only [decide_eq_true_eq]
          intro k
          rcases List.mem_cons.1 k with k2 | k2
          · omega
          · have := h3 _ k2; omega
theorem sub_len {L F : List Nat} (h1 : Up L) (h2 : Up F) (h : ∀ x ∈ F, x ∈ L) : F.length ≤ L.length := by
  rw [← sub_filter h1 h2 h]; exact List.length_filter_le _ _
/-- what came and is not fixed -/
def loose (L F : List Nat) : List Nat := L.filter fun x => !decide (x ∈ F)
theorem good_filter {L : List Nat} {p : Nat → Bool} (h : Good 2 L) : Good 2 (L.filter p) := ⟨h.1.filter _, fun d hd => h.2 d (List.mem_filter.1 hd).1⟩

/-- a box -/
structure St where
  c : Nat
  L : List Nat
  F : List Nat
  D : List Nat
  n : Int
  made : Bool
  time : Int
  delay : Int
  nr : Bool
def newS (first : Int) (delay : Int) (nr : Bool) : St := ⟨((first - 1) % 4294967296).toNat, [], [], [], 0, false, 0, delay, nr⟩
structure Ok (K : Nat) (s : St) : Prop where
  c : s.c < 4294967296
  L : Good 2 s.L
  F : Good 2 s.F
  sub : ∀ x ∈ s.F, x ∈ s.L
  lk : s.L.length ≤ K
  dk : s.D.length ≤ 4096
  d32 : ∀ t ∈ s.D, t < 4294967296
  n0 : 0 ≤ s.n
  nk : s.n ≤ K
  tz : s.n = 0 → s.time = 0
  t0 : 0 ≤ s.time
  t1 : s.time ≤ 1099511628276
  d0 : 0 ≤ s.delay
  d1 : s.delay ≤ 500
theorem Ok.mono {K J : Nat} {s : St} (h : Ok K s) (hk : K ≤ J) : Ok J s := ⟨h.c, h.L, h.F, h.sub, Nat.le_trans h.lk hk, h.dk, h.d32, h.n0, by have := h.nk; omega, h.tz, h.t0, h.t1, h.d0, h.d1⟩
theorem new_ok (first delay : Int) (nr : Bool) (h0 : 0 ≤ delay) (h1 : delay ≤ 500) : Ok 0 (newS first delay nr) :=
  ⟨by show ((first - 1) % 4294967296).toNat < _; omega, good_nil 2, good_nil 2, by simp [newS], by simp [newS], by simp [newS], by simp [newS], by simp [newS], by simp [newS], fun _ => rfl, by simp [newS], by simp [newS], h0, h1⟩

def comeB (t : Nat) (s : St) : Bool := !isIn s.c s.L t && decide (ds s.c t ≤ 65535)
def comeE (t : Nat) (s : St) : Int := if isIn s.c s.L t = false ∧ 65535 < ds s.c t then 31 else 0
def comeS (t : Nat) (s : St) : St :=
  if isIn s.c s.L t = true then { s with D := if s.D.length < 4096 then s.D ++ [t] else s.D }
  else if 65535 < ds s.c t then s
  else { s with c := ts s.c (addN (ds s.c t).toNat s.L), L := addL (ds s.c t).toNat s.L, F := sh (addN (ds s.c t).toNat s.L) s.F }
/-- the same without the duplicates -/
def putS (t : Nat) (s : St) : St :=
  if isIn s.c s.L t = true then s
  else if 65535 < ds s.c t then s
  else { s with c := ts s.c (addN (ds s.c t).toNat s.L), L := addL (ds s.c t).toNat s.L, F := sh (addN (ds s.c t).toNat s.L) s.F }
theorem put_in {t : Nat} {s : St} (h : isIn s.c s.L t = true) : putS t s = s := by simp [putS, h]
theorem put_far {t : Nat} {s : St} (h : isIn s.c s.L t = false) (h2 : 65535 < ds s.c t) : putS t s = s := by simp [putS, h, h2]
theorem come_in {t : Nat} {s : St} (h : isIn s.c s.L t = true) : comeB t s = false ∧ comeE t s = 0 ∧ comeS t s = { s with D := if s.D.length < 4096 then s.D ++ [t] else s.D } := by
  simp [comeB, comeE, comeS, h]
theorem come_far {t : Nat} {s : St} (h : isIn s.c s.L t = false) (h2 : 65535 < ds s.c t) : comeB t s = false ∧ comeE t s = 31 ∧ comeS t s = s := by
  simp [comeB, comeE, comeS, h, h2]
theorem come_new {t d : Nat} {s : St} (h : isIn s.c s.L t = false) (h2 : ds s.c t = (d : Int)) (h3 : d ≤ 65535) : comeB t s = true ∧ comeE t s = 0 ∧ comeS t s = { s with c := ts s.c (addN d s.L), L := addL d s.L, F := sh (addN d s.L) s.F } := by
  have h4 : ¬ (65535 : Int) < (d : Int) := by omega
  refine ⟨?_, ?_, ?_⟩
  · simp [comeB, h, h2]; omega
  · simp [comeE, h, h2]; omega
  · simp [comeS, h, h2, h4]
theorem put_new {t d : Nat} {s : St} (h : isIn s.c s.L t = false) (h2 : ds s.c t = (d : Int)) (h3 : d ≤ 65535) : putS t s = { s with c := ts s.c (addN d s.L), L := addL d s.L, F := sh (addN d s.L) s.F } := by
  have h4 : ¬ (65535 : Int) < (d : Int) := by omega
  simp [putS, h, h2, h4]
theorem not_in {t : Nat} {s : St} (hc : s.c < 4294967296) (ht : t < 4294967296) (h : isIn s.c s.L t = false) : ∃ d : Nat, 1 ≤ d ∧ d < 2147483648 ∧ ds s.c t = (d : Int) ∧ d ∉ s.L := by
  obtain ⟨d, h1, h2, h3, h4⟩ := (dist_cases s.c t hc ht).resolve_left (fun h0 => by unfold isIn at h; rw [decide_eq_true h0] at h; cases h)
  refine ⟨d, h1, h2, h3, fun hm => ?_⟩
  unfold isIn at h
  rw [h3, Int.toNat_natCast, decide_eq_true hm, Bool.or_true] at h
  cases h
theorem come_ok {K t : Nat} {s : St} (h : Ok K s) (ht : t < 4294967296) : Ok (K + 1) (comeS t s) := by
  cases hin : isIn s.c s.L t with
  | true =>
    rw [(come_in hin).2.2]
    have := h.dk
    refine ⟨h.c, h.L, h.F, h.sub, by have := h.lk; simp only; omega, ?_, ?_, h.n0, by have := h.nk; simp only; omega, h.tz, h.t0, h.t1, h.d0, h.d1⟩
    · simp only; split
      · simp; omega
      · omega
    · simp only; split
      · intro x hx
        rcases List.mem_append.1 hx with k | k
        · exact h.d32 x k
        · simp at k; omega
      · exact h.d32
  | false =>
    by_cases hf : 65535 < ds s.c t
    · rw [(come_far hin hf).2.2]; exact h.mono (Nat.le_succ _)
    · obtain ⟨d, h1, h2, h3, h4⟩ := not_in h.c ht hin
      have h5 : d ≤ 65535 := by omega
      rw [(come_new hin h3 h5).2.2]
      have hG := good_ins h.L h4 ⟨h1, h5⟩ (by decide)
      have hout : addN d s.L + 1 ∉ ins d s.L := out_run hG
      have e := addL_sh h.L h1 h5 h4
      refine ⟨ts_lt _ _, ?_, good_sh h.F (fun hm => hout ((mem_ins _ _ _).2 (.inr (h.sub _ hm)))), ?_, ?_, h.dk, h.d32, h.n0, by have := h.nk; simp only; omega, h.tz, h.t0, h.t1, h.d0, h.d1⟩
      · have hg := good_back hG (addN d s.L) (Nat.le_refl _)
        exact good_two hg (by have := back_stop hG; exact this)
      · intro x hx
        simp only at hx ⊢
        rw [e, mem_sh]
        obtain ⟨k1, k2⟩ := (mem_sh _ _ _).1 hx
        exact ⟨k1, (mem_ins _ _ _).2 (.inr (h.sub _ k2))⟩
      · simp only
        rw [e]
        have := len_sh (addN d s.L) (ins d s.L)
        rw [length_ins] at this
        have := h.lk; omega

/-- fixed, or not above what came -/
def free (t : Nat) (s : St) : Bool := decide ((ds s.c t).toNat ∈ s.L) && !decide ((ds s.c t).toNat ∈ s.F)
def dropS (t : Nat) (s : St) : St := if free t s = true then { s with L := del (ds s.c t).toNat s.L } else s
def fixS (t : Nat) (s : St) : St := if free t s = true then { s with F := ins (ds s.c t).toNat s.F } else s
theorem free_iff {t : Nat} {s : St} : free t s = true ↔ (ds s.c t).toNat ∈ s.L ∧ (ds s.c t).toNat ∉ s.F := by simp [free]
theorem free_not {t : Nat} {s : St} : free t s = false ↔ (ds s.c t).toNat ∉ s.L ∨ (ds s.c t).toNat ∈ s.F := by
  simp only [free, Bool.and_eq_false_iff, Bool.not_eq_false', decide_eq_true_eq, decide_eq_false_iff_not]
theorem drop_ok {K t : Nat} {s : St} (h : Ok K s) : Ok K (dropS t s) := by
  unfold dropS
  split
  · rename_i hf
    obtain ⟨h1, h2⟩ := free_iff.1 hf
    refine ⟨h.c, good_del h.L, h.F, fun x hx => (mem_del _ _ _).2 ⟨h.sub x hx, fun e => h2 (e ▸ hx)⟩, ?_, h.dk, h.d32, h.n0, h.nk, h.tz, h.t0, h.t1, h.d0, h.d1⟩
    have := length_del _ _ h.L.1 h1
    have := h.lk; simp only; omega
  · exact h
theorem fix_ok {K t : Nat} {s : St} (h : Ok K s) : Ok K (fixS t s) := by
  unfold fixS
  split
  · rename_i hf
    obtain ⟨h1, h2⟩ := free_iff.1 hf
    have := h.L.2 _ h1
    exact ⟨h.c, h.L, good_ins2 h.F h2 this.1 this.2, fun x hx => ((mem_ins _ _ _).1 hx).elim (fun e => e ▸ h1) (h.sub x), h.lk, h.dk, h.d32, h.n0, h.nk, h.tz, h.t0, h.t1, h.d0, h.d1⟩
  · exact h
/-- all of a row -/
def fixAll (l : List Nat) (s : St) : St := l.foldl (fun s t => fixS t s) s
def fixN : List Nat → St → Int
  | [], _ => 0
  | t :: r, s => (if free t s = true then 1 else 0) + fixN r (fixS t s)
theorem fixAll_ok {K : Nat} : ∀ {l : List Nat} {s : St}, Ok K s → Ok K (fixAll l s)
  | [], _, h => h
  | t :: r, s, h => fixAll_ok (l := r) (fix_ok h)
theorem fixAll_snoc (l : List Nat) (t : Nat) (s : St) : fixAll (l ++ [t]) s = fixS t (fixAll l s) := by unfold fixAll; rw [List.foldl_append]; rfl
theorem fixN_snoc : ∀ (l : List Nat) (t : Nat) (s : St), fixN (l ++ [t]) s = fixN l s + (if free t (fixAll l s) = true then 1 else 0)
  | [], t, s => by
    show (if free t s = true then (1 : Int) else 0) + 0 = 0 + (if free t s = true then 1 else 0)
    omega
  | a :: r, t, s => by
    have ih := fixN_snoc r t (fixS a s)
    show (if free a s = true then 1 else 0) + fixN (r ++ [t]) (fixS a s) = (if free a s = true then 1 else 0) + fixN r (fixS a s) + _
    rw [ih]
    show _ = _ + (if free t (fixAll r (fixS a s)) = true then 1 else 0)
    omega
theorem fixN_bound : ∀ (l : List Nat) (s : St), 0 ≤ fixN l s ∧ fixN l s ≤ l.length
  | [], s => by simp [fixN]
  | a :: r, s => by
    have ih := fixN_bound r (fixS a s)
    simp only [fixN, List.length_cons]
    split <;> omega

/-- nothing waits -/
def atOnce (s : St) : Bool := decide (0 < s.D.length) || decide (2 ≤ s.n + 1) || !s.made
def heardS (now : Int) (s : St) : St := { s with n := s.n + 1, time := if atOnce s = true then now else now + s.delay }
def timeOk (now : Int) : Bool := decide (0 ≤ now ∧ now ≤ 1099511627776)
theorem heard_ok {K : Nat} {s : St} {now : Int} (h : Ok K s) (hn : timeOk now = true) : Ok (K + 1) (heardS now s) := by
  have hh := of_decide_eq_true hn
  have := h.d0
  have := h.d1
  refine ⟨h.c, h.L, h.F, h.sub, by have := h.lk; simp only [heardS]; omega, h.dk, h.d32, by have := h.n0; simp only [heardS]; omega, by have := h.nk; simp only [heardS]; omega, fun e => by have := h.n0; simp only [heardS] at e; omega, ?_, ?_, h.d0, h.d1⟩ <;> (simp only [heardS]; split <;> omega)
def repS (s : St) : St := { s with D := [], n := 0, made := true, time := 0 }
theorem rep_ok {K : Nat} {s : St} (h : Ok K s) : Ok K (repS s) :=
  ⟨h.c, h.L, h.F, h.sub, h.lk, by simp [repS], by simp [repS], by simp [repS], by simp [repS], fun _ => rfl, by simp [repS], by simp [repS], h.d0, h.d1⟩

/-- the document's row of fixed ones -/
def Fx (c : Nat) (F : List Nat) (P : List Nat) : Prop := List.Perm P (F.map (ts c))
theorem Fx.mem {c : Nat} {F P : List Nat} (h : Fx c F P) (hc : c < 4294967296) (hF : Good 2 F) {t : Nat} (ht : t < 4294967296) : t ∈ P ↔ (ds c t).toNat ∈ F := by
  rw [List.Perm.mem_iff h, List.mem_map]
  constructor
  · rintro ⟨d, hd, rfl⟩
    have := hF.2 d hd
    rw [ds_ts c d hc (by omega), Int.toNat_natCast]; exact hd
  · intro hm
    have := hF.2 _ hm
    exact ⟨_, hm, ts_ds c t hc ht (by omega)⟩
theorem Fx.all {c : Nat} {F P : List Nat} (h : Fx c F P) : ∀ t ∈ P, t < 4294967296 := fun t ht => by
  obtain ⟨d, _, rfl⟩ := List.mem_map.1 ((List.Perm.mem_iff h).1 ht); exact ts_lt _ _
theorem Fx.len {c : Nat} {F P : List Nat} (h : Fx c F P) : P.length = F.length := by rw [List.Perm.length_eq h, List.length_map]
theorem Fx.tidy {c n : Nat} {F P : List Nat} (h : Fx c F P) (hc : c < 4294967296) (hF : Good 2 F) (hn : n ≤ 65537) : Fx (ts c n) (sh n F) (P.filter fun t => decide (0 < ds (ts c n) t)) := by
  have h1 := List.Perm.filter (fun t => decide (0 < ds (ts c n) t)) h
  unfold Fx
  refine h1.trans (List.Perm.of_eq ?_)
  unfold sh
  rw [List.filter_map, List.map_map]
  have he : (F.filter ((fun t => decide (0 < ds (ts c n) t)) ∘ ts c)) = F.filter fun x => decide (n < x) := List.filter_congr fun x hx => by
    have := hF.2 x hx
    simp only [Function.comp]
    rw [ds_shift c n x hc (by omega) (by omega)]
    exact decide_eq_decide.2 (by omega)
  rw [he]
  refine List.map_congr_left fun x hx => ?_
  have := of_decide_eq_true (List.mem_filter.1 hx).2
  simp only [Function.comp]
  exact (ts_ts c n x (by omega)).symm
theorem ins_perm (d : Nat) : ∀ L, List.Perm (ins d L) (d :: L)
  | [] => .refl _
  | x :: xs => by
    rw [ins]
    split
    · exact .refl _
    · exact (List.Perm.cons x (ins_perm d xs)).trans (List.Perm.swap d x xs)
theorem Fx.hold {c t : Nat} {F P : List Nat} (h : Fx c F P) (hc : c < 4294967296) (ht : t < 4294967296) (h0 : 0 ≤ ds c t) : Fx c (ins (ds c t).toNat F) (P ++ [t]) := by
  unfold Fx
  refine (List.perm_append_comm (l₁ := P) (l₂ := [t])).trans ?_
  have h1 := (ins_perm (ds c t).toNat F).map (ts c)
  refine List.Perm.trans ?_ h1.symm
  rw [List.map_cons, ts_ds c t hc ht h0]
  exact List.Perm.cons _ h
end Go.Proofs.YtdifceikfnnfeaaDoor.Sp.Inb
