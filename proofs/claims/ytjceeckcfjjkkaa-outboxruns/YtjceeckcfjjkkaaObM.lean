/-
  Boxes as values: chunks, sums of their bytes, what a report tells of each, and what it makes of all.
  Conditions: as at each lemma.
-/
import Derived.Test.YtjceeckcfjjkkaaOw
namespace Go.Proofs.Ytjceeckcfjjkkaa.Ob
set_option linter.unusedVariables false

/-- a part of a message -/
structure Pt where
  sm : Int
  sn : Int
  pr : Int
  un : Bool
  d : List Int
  bg : Bool
  en : Bool
/-- a chunk -/
structure Ch where
  ts : Int
  pa : Int
  ti : Int
  se : Int
  mi : Int
  qu : Bool
  st : Int
  p : Pt
def sz (x : Ch) : Int := (x.p.d.length : Int)
theorem sz_nn (x : Ch) : 0 ≤ sz x := by unfold sz; omega
/-- a sum over chunks -/
def sm (f : Ch → Int) (L : List Ch) : Int := (L.map f).sum
section
variable {f g : Ch → Int} {L : List Ch} {x y : Ch} {i k u : Nat}
theorem sm_nil : sm f [] = 0 := rfl
theorem sm_append (L M : List Ch) : sm f (L ++ M) = sm f L + sm f M := by unfold sm; rw [List.map_append, List.sum_append]
theorem sm_one (x : Ch) : sm f [x] = f x := by simp [sm]
theorem sm_cons (x : Ch) (L : List Ch) : sm f (x :: L) = f x + sm f L := by simp [sm]
theorem sm_take (h : L[k]? = some x) : sm f (L.take (k + 1)) = sm f (L.take k) + f x := by
  rw [List.take_add_one, h, sm_append]
  show _ + sm f [x] = _
  rw [sm_one]
theorem sm_set : ∀ (L : List Ch) (i : Nat) (x : Ch), L[i]? = some x → sm f (L.set i y) = sm f L - f x + f y
  | [], i, x, h => by simp at h
  | z :: L, 0, x, h => by
    simp at h
    subst h
    rw [List.set_cons_zero, sm_cons, sm_cons]
    omega
  | z :: L, i + 1, x, h => by
    rw [List.set_cons_succ, sm_cons, sm_cons, sm_set L i x (by simpa using h)]
    omega
theorem sm_zero : ∀ (L : List Ch), (∀ x ∈ L, f x = 0) → sm f L = 0
  | [], h => rfl
  | z :: L, h => by rw [sm_cons, h z (by simp), sm_zero L (fun x hx => h x (by simp [hx]))]; rfl
theorem sm_drop (u : Nat) (h : ∀ x ∈ L.take u, f x = 0) : sm f (L.drop u) = sm f L := by
  have e := sm_append (f := f) (L.take u) (L.drop u)
  rw [List.take_append_drop, sm_zero _ h] at e
  omega
theorem sm_bound {B : Int} : ∀ (L : List Ch), (∀ x ∈ L, 0 ≤ f x ∧ f x ≤ B) → 0 ≤ sm f L ∧ sm f L ≤ B * (L.length : Int)
  | [], h => by simp [sm]
  | z :: L, h => by
    have h1 := h z (by simp)
    have h2 := sm_bound L (fun x hx => h x (by simp [hx]))
    rw [sm_cons, List.length_cons]
    rw [show B * ((L.length + 1 : Nat) : Int) = B * (L.length : Int) + B by rw [Int.natCast_add, Int.mul_add]; simp]
    omega
theorem sm_congr : ∀ (L : List Ch), (∀ x ∈ L, f x = g x) → sm f L = sm g L
  | [], h => rfl
  | z :: L, h => by rw [sm_cons, sm_cons, h z (by simp), sm_congr L (fun x hx => h x (by simp [hx]))]
theorem sm_mono {M : List Ch} (hz : ∀ x ∈ L, 0 ≤ f x) (k : Nat) : sm f (L.take k) ≤ sm f L := by
  have e := sm_append (f := f) (L.take k) (L.drop k)
  rw [List.take_append_drop] at e
  have h : ∀ M : List Ch, (∀ x ∈ M, 0 ≤ f x) → 0 ≤ sm f M := by
    intro M
    induction M with
    | nil => intro _; exact Int.le_refl _
    | cons z M ih => intro hM; rw [sm_cons]; have := hM z (by simp); have := ih (fun x hx => hM x (by simp [hx])); omega
  have := h (L.drop k) (fun x hx => hz x (List.mem_of_mem_drop hx))
  omega
theorem sm_ge (hz : ∀ x ∈ L, 0 ≤ f x) (hx : x ∈ L) : f x ≤ sm f L := by
  obtain ⟨i, hi⟩ := List.mem_iff_getElem?.1 hx
  have h1 := sm_take (f := f) hi
  have h2 := sm_mono (M := L) hz (i + 1)
  have h3 : 0 ≤ sm f (L.take i) := by
    have h : ∀ M : List Ch, (∀ x ∈ M, 0 ≤ f x) → 0 ≤ sm f M := by
      intro M
      induction M with
      | nil => intro _; exact Int.le_refl _
      | cons z M ih => intro hM; rw [sm_cons]; have := hM z (by simp); have := ih (fun x hx => hM x (by simp [hx])); omega
    exact h _ (fun x hx => hz x (List.mem_of_mem_take hx))
  omega
end
/-- bytes on their way on a path; bytes that are marked -/
def flF (p : Int) (x : Ch) : Int := if x.st = 1 ∧ x.pa = p then sz x else 0
def mkF (x : Ch) : Int := if x.st = 2 then sz x else 0
def fl (L : List Ch) (p : Int) : Int := sm (flF p) L
def mk (L : List Ch) : Int := sm mkF L
theorem flF_nn (p : Int) (x : Ch) : 0 ≤ flF p x := by unfold flF; have := sz_nn x; split <;> omega
theorem mkF_nn (x : Ch) : 0 ≤ mkF x := by unfold mkF; have := sz_nn x; split <;> omega
theorem flF_le (p : Int) (x : Ch) : flF p x ≤ sz x := by unfold flF; have := sz_nn x; split <;> omega
theorem mkF_le (x : Ch) : mkF x ≤ sz x := by unfold mkF; have := sz_nn x; split <;> omega
def opn (x : Ch) : Bool := decide (x.st = 1) || decide (x.st = 2)

/-- a sum by places -/
def sI (f : Nat → Ch → Int) (L : List Ch) : Nat → Int
  | 0 => 0
  | k + 1 => sI f L k + (match L[k]? with | some x => f k x | none => 0)
section
variable {f g : Nat → Ch → Int} {L : List Ch} {x y : Ch} {i k u : Nat}
theorem sI_succ (h : L[k]? = some x) : sI f L (k + 1) = sI f L k + f k x := by simp only [sI, h]
theorem sI_congr (L : List Ch) : ∀ k, (∀ i x, i < k → L[i]? = some x → f i x = g i x) → sI f L k = sI g L k
  | 0, h => rfl
  | k + 1, h => by
    simp only [sI]
    rw [sI_congr L k (fun i x hi hx => h i x (by omega) hx)]
    cases hx : L[k]? with
    | none => rfl
    | some x => simp only []; rw [h k x (by omega) hx]
theorem sI_mapIdx (h : Nat → Ch → Ch) (L : List Ch) : ∀ k, sI f (L.mapIdx h) k = sI (fun i x => f i (h i x)) L k
  | 0 => rfl
  | k + 1 => by
    simp only [sI]
    rw [sI_mapIdx h L k, List.getElem?_mapIdx]
    cases L[k]? with
    | none => rfl
    | some x => rfl
theorem sI_bound {B : Int} (hB : 0 ≤ B) (L : List Ch) : ∀ k, (∀ i x, i < k → L[i]? = some x → 0 ≤ f i x ∧ f i x ≤ B) → 0 ≤ sI f L k ∧ sI f L k ≤ B * (k : Int)
  | 0, h => by simp [sI]
  | k + 1, h => by
    have h1 := sI_bound hB L k (fun i x hi hx => h i x (by omega) hx)
    simp only [sI]
    rw [show B * ((k + 1 : Nat) : Int) = B * (k : Int) + B by rw [Int.natCast_add, Int.mul_add]; simp]
    cases hx : L[k]? with
    | none => simp only []; omega
    | some x => have := h k x (by omega) hx; simp only []; omega
theorem sI_zero (L : List Ch) (k : Nat) (h : ∀ i x, i < k → L[i]? = some x → f i x = 0) : sI f L k = 0 := by
  rw [sI_congr (g := fun _ _ => 0) L k h]
  clear h
  induction k with
  | zero => rfl
  | succ k ih => simp only [sI, ih]; cases L[k]? <;> rfl
end
/-- chunks up to a place are changed -/
def up (k : Nat) (f : Nat → Ch → Ch) (L : List Ch) : List Ch := L.mapIdx fun i x => if i < k then f i x else x
/-- chunks from a place on are changed -/
def dn (k : Nat) (f : Nat → Ch → Ch) (L : List Ch) : List Ch := L.mapIdx fun i x => if k ≤ i then f i x else x
section
variable {f : Nat → Ch → Ch} {L : List Ch} {x y : Ch} {i k u : Nat}
theorem up_at (k : Nat) (f : Nat → Ch → Ch) (L : List Ch) (i : Nat) : (up k f L)[i]? = L[i]?.map fun x => if i < k then f i x else x := by unfold up; rw [List.getElem?_mapIdx]
theorem dn_at (k : Nat) (f : Nat → Ch → Ch) (L : List Ch) (i : Nat) : (dn k f L)[i]? = L[i]?.map fun x => if k ≤ i then f i x else x := by unfold dn; rw [List.getElem?_mapIdx]
theorem up_len (k : Nat) (f : Nat → Ch → Ch) (L : List Ch) : (up k f L).length = L.length := by simp [up]
theorem dn_len (k : Nat) (f : Nat → Ch → Ch) (L : List Ch) : (dn k f L).length = L.length := by simp [dn]
theorem up_here (h : L[k]? = some x) : (up k f L)[k]? = some x := by rw [up_at, h]; simp
theorem dn_here (h : L[k]? = some x) : (dn (k + 1) f L)[k]? = some x := by rw [dn_at, h]; simp; intro hk; omega
theorem up_zero : up 0 f L = L := by
  apply List.ext_getElem?
  intro i
  rw [up_at]
  cases L[i]? <;> simp
theorem dn_end : dn L.length f L = L := by
  apply List.ext_getElem?
  intro i
  rw [dn_at]
  cases h : L[i]? with
  | none => rfl
  | some x => have := (List.getElem?_eq_some_iff.1 h).1; simp; omega
theorem up_set (h : L[k]? = some x) : (up k f L).set k (f k x) = up (k + 1) f L := by
  apply List.ext_getElem?
  intro i
  rw [List.getElem?_set, up_at, up_at, up_len]
  have hk := (List.getElem?_eq_some_iff.1 h).1
  by_cases e : k = i
  · subst e; rw [if_pos rfl, if_pos hk, h]; simp
  · rw [if_neg e]
    cases L[i]? with
    | none => rfl
    | some y =>
      simp only [Option.map_some, Option.some.injEq]
      by_cases h1 : i < k
      · rw [if_pos h1, if_pos (by omega)]
      · rw [if_neg h1, if_neg (by omega)]
theorem dn_set (h : L[k]? = some x) : (dn (k + 1) f L).set k (f k x) = dn k f L := by
  apply List.ext_getElem?
  intro i
  rw [List.getElem?_set, dn_at, dn_at, dn_len]
  have hk := (List.getElem?_eq_some_iff.1 h).1
  by_cases e : k = i
  · subst e; rw [if_pos rfl, if_pos hk, h]; simp
  · rw [if_neg e]
    cases L[i]? with
    | none => rfl
    | some y =>
      simp only [Option.map_some, Option.some.injEq]
      by_cases h1 : k ≤ i
      · rw [if_pos h1, if_pos (by omega)]
      · rw [if_neg h1, if_neg (by omega)]
theorem set_self (h : L[k]? = some x) : L.set k x = L := by
  apply List.ext_getElem?
  intro i
  rw [List.getElem?_set]
  have hk := (List.getElem?_eq_some_iff.1 h).1
  by_cases e : k = i
  · subst e; rw [if_pos rfl, if_pos hk, h]
  · rw [if_neg e]
theorem up_same (h : L[k]? = some x) (hf : f k x = x) : up (k + 1) f L = up k f L := by rw [← up_set h, hf, set_self (up_here h)]
theorem dn_same (h : L[k]? = some x) (hf : f k x = x) : dn k f L = dn (k + 1) f L := by rw [← dn_set h, hf, set_self (dn_here h)]
theorem up_full : up L.length f L = L.mapIdx f := by
  apply List.ext_getElem?
  intro i
  rw [up_at, List.getElem?_mapIdx]
  cases h : L[i]? with
  | none => rfl
  | some x => have := (List.getElem?_eq_some_iff.1 h).1; simp; omega
theorem dn_full : dn 0 f L = L.mapIdx f := by
  apply List.ext_getElem?
  intro i
  rw [dn_at, List.getElem?_mapIdx]
  cases L[i]? <;> simp
end

/-- what a report tells of a path -/
structure Ak where
  by_ : Int
  mv : Bool
  tr : Int
  lo : Int
/-- newly told -/
def nwl (tl : Nat → Bool) (L : List Ch) (i : Nat) : Bool := match L[i]? with | some x => tl i && opn x | none => false
theorem nwl_at {tl : Nat → Bool} {L : List Ch} {i : Nat} {x : Ch} (h : L[i]? = some x) : nwl tl L i = (tl i && opn x) := by unfold nwl; rw [h]
/-- a path's first open chunk was met -/
def hdA (p : Int) (L : List Ch) : Nat → Bool
  | 0 => false
  | k + 1 => match L[k]? with | some x => hdA p L k || (opn x && decide (x.pa = p)) | none => hdA p L k
/-- and it is newly told -/
def mvA (nl : Nat → Bool) (p : Int) (L : List Ch) : Nat → Bool
  | 0 => false
  | k + 1 => match L[k]? with | some x => if opn x && decide (x.pa = p) && !hdA p L k then nl k else mvA nl p L k | none => mvA nl p L k
def byF (nl : Nat → Bool) (p : Int) (i : Nat) (x : Ch) : Int := if nl i = true ∧ x.pa = p then sz x else 0
def trA (nl : Nat → Bool) (now p : Int) (L : List Ch) : Nat → Int
  | 0 => -1
  | k + 1 => match L[k]? with | some x => if nl k = true ∧ x.pa = p ∧ x.ti = 1 then max (now - x.se) 0 else trA nl now p L k | none => trA nl now p L k
/-- given up -/
def f3 (tl : Nat → Bool) (i : Nat) (x : Ch) : Ch := if x.st = 3 ∧ tl i = false then { x with st := 2, mi := 0 } else x
def rnF (tl : Nat → Bool) (i : Nat) (x : Ch) : Int := if x.st = 3 ∧ tl i = false then sz x else 0
/-- it came; it came for good -/
def f4a (nl : Nat → Bool) (i : Nat) (x : Ch) : Ch := if nl i = true then { x with st := 3 } else x
def f4 (nl gd : Nat → Bool) (i : Nat) (x : Ch) : Ch := if gd i = true ∧ (f4a nl i x).st = 3 then { x with st := 4 } else f4a nl i x
def frF (nl gd : Nat → Bool) (i : Nat) (x : Ch) : Int := if gd i = true ∧ (f4a nl i x).st = 3 then sz x else 0
/-- one of the same path behind it is newly told, and was not sent ahead of it -/
def lat (nl : Nat → Bool) (L : List Ch) (i : Nat) (p s : Int) : Bool := (List.range L.length).any fun j => decide (i < j) && nl j && (match L[j]? with | some y => decide (y.pa = p) && decide (s ≤ y.se) | none => false)
theorem lat_iff {nl : Nat → Bool} {L : List Ch} {i : Nat} {p s : Int} : lat nl L i p s = true ↔ ∃ j y, i < j ∧ L[j]? = some y ∧ nl j = true ∧ y.pa = p ∧ s ≤ y.se := by
  unfold lat
  rw [List.any_eq_true]
  constructor
  · rintro ⟨j, hj, h⟩
    simp only [Bool.and_eq_true, decide_eq_true_eq] at h
    obtain ⟨⟨h1, h2⟩, h3⟩ := h
    cases hy : L[j]? with
    | none => rw [hy] at h3; cases h3
    | some y =>
      rw [hy] at h3
      simp only [Bool.and_eq_true, decide_eq_true_eq] at h3
      exact ⟨j, y, h1, hy, h2, h3.1, h3.2⟩
  · rintro ⟨j, y, h1, hy, h2, h3, h4⟩
    refine ⟨j, List.mem_range.2 (List.getElem?_eq_some_iff.1 hy).1, ?_⟩
    rw [hy]
    simp [h1, h2, h3, h4]
def f5 (nl : Nat → Bool) (L : List Ch) (i : Nat) (x : Ch) : Ch :=
  if x.st = 1 ∧ lat nl L i x.pa x.se = true then (if 3 ≤ x.mi + 1 ∧ x.qu = false then { x with st := 2, qu := true, mi := 0 } else { x with mi := x.mi + 1 }) else x
def loF (nl : Nat → Bool) (L : List Ch) (p : Int) (i : Nat) (x : Ch) : Int :=
  if x.st = 1 ∧ lat nl L i x.pa x.se = true ∧ 3 ≤ x.mi + 1 ∧ x.qu = false ∧ x.pa = p then sz x else 0
/-- behind a report -/
def L3 (tl : Nat → Bool) (L : List Ch) : List Ch := L.mapIdx (f3 tl)
def L4 (tl gd : Nat → Bool) (L : List Ch) : List Ch := (L3 tl L).mapIdx (f4 (nwl tl L) gd)
def L5 (tl gd : Nat → Bool) (L : List Ch) : List Ch := (L4 tl gd L).mapIdx (f5 (nwl tl L) L)
def akV (tl gd : Nat → Bool) (now : Int) (L : List Ch) (p : Int) : Ak := ⟨sI (byF (nwl tl L) p) L L.length, mvA (nwl tl L) p L L.length, trA (nwl tl L) now p L L.length, sI (loF (nwl tl L) L p) (L4 tl gd L) L.length⟩
def frV (tl gd : Nat → Bool) (L : List Ch) : Int := sI (frF (nwl tl L) gd) (L3 tl L) L.length
def rnV (tl : Nat → Bool) (L : List Ch) : Int := sI (rnF tl) L L.length

/-- a box -/
structure St where
  n : Nat
  c : Int
  L : List Ch
/-- a distance lies in a block -/
def ins (gs : List (Int × Int)) (d : Int) : Bool := gs.any fun g => decide (g.1 ≤ d) && decide (d ≤ g.2)
def gdV (ns : List (Int × Int)) (u : Nat) (i : Nat) : Bool := decide (i < u) || ins ns ((i : Int) + 1 - u)
def tlV (gs ns : List (Int × Int)) (u : Nat) (i : Nat) : Bool := gdV ns u i || ins gs ((i : Int) + 1 - u)
def ord (gs : List (Int × Int)) : Bool := gs.all fun g => decide (g.1 ≠ 0) && decide (g.1 ≤ g.2)
def far : List (Int × Int) → Int
  | [] => 0
  | g :: gs => max g.2 (far gs)
/-- a report as a value: its kind, its TSN, its blocks (those for good alone where its kind has them) -/
structure Rq where
  kd : Int
  tsn : Int
  gs : List (Int × Int)
  nr : List (Int × Int)
def Rq.ns (q : Rq) : List (Int × Int) := if q.kd = 16 then q.nr else []
def nextS (S : St) : Int := (S.c + (S.L.length : Int) + 1) % 4294967296
/-- how far a report goes -/
def upS (S : St) (q : Rq) : Nat := ((q.tsn - S.c) % 4294967296).toNat
def repE (S : St) (q : Rq) (now : Int) : Int :=
  if ¬ (q.kd = 3 ∨ q.kd = 16) ∨ ord (q.gs ++ q.ns) = false then 172 else if now < 0 ∨ 1099511627776 < now then 1 else
  if 2147483648 < (q.tsn - S.c) % 4294967296 then 170 else if (S.L.length : Int) < (q.tsn - S.c) % 4294967296 + far (q.gs ++ q.ns) then 171 else 0
def tlS (S : St) (q : Rq) : Nat → Bool := tlV q.gs q.ns (upS S q)
def gdS (S : St) (q : Rq) : Nat → Bool := gdV q.ns (upS S q)
def repS (S : St) (q : Rq) : St := ⟨S.n, q.tsn, (L5 (tlS S q) (gdS S q) S.L).drop (upS S q)⟩

/-- what may be, behind so many acts -/
structure Gc (K : Nat) (n : Nat) (x : Ch) : Prop where
  pa0 : 0 ≤ x.pa
  pan : x.pa < n
  ti0 : 1 ≤ x.ti
  tiK : x.ti ≤ K
  se0 : 0 ≤ x.se
  se1 : x.se ≤ 1099511627776
  mi0 : 0 ≤ x.mi
  miK : x.mi ≤ K
  mq : x.qu = false → x.mi ≤ 2
  st1 : 1 ≤ x.st
  st4 : x.st ≤ 4
  d1 : 1 ≤ x.p.d.length
  d2 : x.p.d.length ≤ 65536
structure Good (K : Nat) (S : St) : Prop where
  k : K ≤ 1000
  n1 : 1 ≤ S.n
  n8 : S.n ≤ 8
  c0 : 0 ≤ S.c
  c1 : S.c < 4294967296
  len : S.L.length ≤ K
  ch : ∀ x ∈ S.L, Gc K S.n x
  ts : ∀ (i : Nat) (x : Ch), S.L[i]? = some x → x.ts = (S.c + 1 + (i : Int)) % 4294967296
theorem Gc.mono {K K' n : Nat} {x : Ch} (h : Gc K n x) (hk : K ≤ K') : Gc K' n x := ⟨h.pa0, h.pan, h.ti0, by have := h.tiK; omega, h.se0, h.se1, h.mi0, by have := h.miK; omega, h.mq, h.st1, h.st4, h.d1, h.d2⟩
theorem Good.mono {K K' : Nat} {S : St} (h : Good K S) (hk : K ≤ K') (h' : K' ≤ 1000) : Good K' S := ⟨h', h.n1, h.n8, h.c0, h.c1, by have := h.len; omega, fun x hx => (h.ch x hx).mono hk, h.ts⟩
theorem Gc.f3 {K n : Nat} {x : Ch} (h : Gc K n x) (tl : Nat → Bool) (i : Nat) : Gc K n (f3 tl i x) := by
  unfold Ob.f3
  split
  · exact ⟨h.pa0, h.pan, h.ti0, h.tiK, h.se0, h.se1, Int.le_refl _, by simp, fun _ => by simp, by simp, by simp, h.d1, h.d2⟩
  · exact h
theorem Gc.f4 {K n : Nat} {x : Ch} (h : Gc K n x) (nl gd : Nat → Bool) (i : Nat) : Gc K n (f4 nl gd i x) := by
  unfold Ob.f4
  split
  · exact ⟨h.pa0, h.pan, h.ti0, h.tiK, h.se0, h.se1, h.mi0, h.miK, h.mq, by simp, by simp, h.d1, h.d2⟩
  · unfold f4a
    split
    · exact ⟨h.pa0, h.pan, h.ti0, h.tiK, h.se0, h.se1, h.mi0, h.miK, h.mq, by simp, by simp, h.d1, h.d2⟩
    · exact h
theorem Gc.f5 {K n : Nat} {x : Ch} (h : Gc K n x) (nl : Nat → Bool) (L : List Ch) (i : Nat) : Gc (K + 1) n (f5 nl L i x) := by
  have hm := h.mono (Nat.le_succ K)
  have h0 := h.mi0
  have h1 := h.miK
  unfold Ob.f5
  split
  · split
    · exact ⟨hm.pa0, hm.pan, hm.ti0, hm.tiK, hm.se0, hm.se1, Int.le_refl _, by simp; omega, fun _ => by simp, by simp, by simp, hm.d1, hm.d2⟩
    · rename_i h3
      exact ⟨hm.pa0, hm.pan, hm.ti0, hm.tiK, hm.se0, hm.se1, by simp; omega, by simp; omega, fun hq => by
        simp only at hq ⊢
        have : ¬ 3 ≤ x.mi + 1 := fun h => h3 ⟨h, hq⟩
        omega, hm.st1, hm.st4, hm.d1, hm.d2⟩
  · exact hm
theorem f3_fix (tl : Nat → Bool) (i : Nat) (x : Ch) : (f3 tl i x).ts = x.ts ∧ (f3 tl i x).pa = x.pa ∧ (f3 tl i x).se = x.se ∧ (f3 tl i x).p = x.p ∧ (f3 tl i x).ti = x.ti := by
  unfold f3; split <;> exact ⟨rfl, rfl, rfl, rfl, rfl⟩
theorem f4_fix (nl gd : Nat → Bool) (i : Nat) (x : Ch) : (f4 nl gd i x).ts = x.ts ∧ (f4 nl gd i x).pa = x.pa ∧ (f4 nl gd i x).se = x.se ∧ (f4 nl gd i x).p = x.p ∧ (f4 nl gd i x).ti = x.ti := by
  unfold f4; split <;> (try unfold f4a) <;> (try split) <;> exact ⟨rfl, rfl, rfl, rfl, rfl⟩
theorem f5_fix (nl : Nat → Bool) (L : List Ch) (i : Nat) (x : Ch) : (f5 nl L i x).ts = x.ts ∧ (f5 nl L i x).pa = x.pa ∧ (f5 nl L i x).se = x.se ∧ (f5 nl L i x).p = x.p ∧ (f5 nl L i x).ti = x.ti := by
  unfold f5; split <;> (try split) <;> exact ⟨rfl, rfl, rfl, rfl, rfl⟩
theorem L5_at {tl gd : Nat → Bool} {L : List Ch} {i : Nat} : (L5 tl gd L)[i]? = L[i]?.map fun x => f5 (nwl tl L) L i (f4 (nwl tl L) gd i (f3 tl i x)) := by
  unfold L5 L4 L3
  rw [List.getElem?_mapIdx, List.getElem?_mapIdx, List.getElem?_mapIdx]
  cases L[i]? <;> rfl
theorem L5_len (tl gd : Nat → Bool) (L : List Ch) : (L5 tl gd L).length = L.length := by simp [L5, L4, L3]
theorem L4_len (tl gd : Nat → Bool) (L : List Ch) : (L4 tl gd L).length = L.length := by simp [L4, L3]
theorem L3_len (tl : Nat → Bool) (L : List Ch) : (L3 tl L).length = L.length := by simp [L3]
theorem mem_mapIdx {f : Nat → Ch → Ch} {L : List Ch} {y : Ch} (h : y ∈ L.mapIdx f) : ∃ i x, L[i]? = some x ∧ y = f i x := by
  obtain ⟨i, hi⟩ := List.mem_iff_getElem?.1 h
  rw [List.getElem?_mapIdx] at hi
  cases hx : L[i]? with
  | none => rw [hx] at hi; cases hi
  | some x => rw [hx] at hi; cases hi; exact ⟨i, x, hx, rfl⟩
theorem far_nn : ∀ gs : List (Int × Int), 0 ≤ far gs
  | [] => Int.le_refl _
  | g :: gs => by have := far_nn gs; simp only [far]; omega
theorem repE_up {S : St} {q : Rq} {now : Int} (h : repE S q now = 0) : upS S q ≤ S.L.length ∧ (upS S q : Int) = (q.tsn - S.c) % 4294967296 ∧ (upS S q : Int) + far (q.gs ++ q.ns) ≤ S.L.length := by
  unfold repE at h
  have h0 := far_nn (q.gs ++ q.ns)
  split at h
  · cases h
  · split at h
    · cases h
    · split at h
      · cases h
      · split at h
        · cases h
        · have : (upS S q : Int) = (q.tsn - S.c) % 4294967296 := by unfold upS; omega
          omega
theorem Good.rep {K : Nat} {S : St} (h : Good K S) (hK : K + 1 ≤ 1000) (q : Rq) (now : Int) (hq : 0 ≤ q.tsn ∧ q.tsn < 4294967296) (he : repE S q now = 0) : Good (K + 1) (repS S q) := by
  obtain ⟨h1, h2, h3⟩ := repE_up he
  have h4 := h.c0
  have h5 := h.c1
  refine ⟨hK, h.n1, h.n8, hq.1, hq.2, ?_, fun y hy => ?_, fun i y hy => ?_⟩
  · simp only [repS, List.length_drop, L5_len]; have := h.len; omega
  · have hy := List.mem_of_mem_drop hy
    obtain ⟨i, hi⟩ := List.mem_iff_getElem?.1 hy
    rw [L5_at] at hi
    cases hx : S.L[i]? with
    | none => rw [hx] at hi; cases hi
    | some x =>
      rw [hx] at hi; cases hi
      exact (((h.ch x (List.mem_of_getElem? hx)).f3 _ i).f4 _ _ i).f5 _ _ i
  · simp only [repS] at hy ⊢
    rw [List.getElem?_drop, L5_at] at hy
    cases hx : S.L[upS S q + i]? with
    | none => rw [hx] at hy; cases hy
    | some x =>
      rw [hx] at hy; cases hy
      rw [(f5_fix ..).1, (f4_fix ..).1, (f3_fix ..).1, h.ts _ _ hx]
      omega
end Go.Proofs.Ytjceeckcfjjkkaa.Ob
