/-
  What reports come to, as values: bytes are freed once; a report that comes once more tells of nothing new.
  Conditions: as at each lemma.
-/
import Derived.Test.YtjceeckcfjjkkaaObM
namespace Go.Proofs.Ytjceeckcfjjkkaa.Ob
set_option linter.unusedVariables false
/-- bytes that are kept and not freed -/
def kpF (x : Ch) : Int := if x.st = 4 then 0 else sz x
def kp (L : List Ch) : Int := sm kpF L
theorem sI_const (f : Ch → Int) (L : List Ch) : ∀ k, sI (fun _ x => f x) L k = sm f (L.take k)
  | 0 => by simp [sI, sm_nil]
  | k + 1 => by
    simp only [sI]
    rw [sI_const f L k]
    cases h : L[k]? with
    | none => rw [List.take_add_one, h]; simp
    | some x => rw [sm_take h]
theorem sI_add (f g : Nat → Ch → Int) (L : List Ch) : ∀ k, sI (fun i x => f i x + g i x) L k = sI f L k + sI g L k
  | 0 => rfl
  | k + 1 => by
    simp only [sI]
    rw [sI_add f g L k]
    cases h : L[k]? with
    | none => simp
    | some x => simp only []; omega
theorem kpF_nn (x : Ch) : 0 ≤ kpF x := by unfold kpF; have := sz_nn x; split <;> omega
theorem kpF_le (x : Ch) : kpF x ≤ sz x := by unfold kpF; have := sz_nn x; split <;> omega
theorem kpF_set (x : Ch) {y : Ch} (hd : y.p.d = x.p.d) (hs : y.st = 4 ↔ x.st = 4) : kpF y = kpF x := by
  have : sz y = sz x := by unfold sz; rw [hd]
  unfold kpF
  rw [this]
  by_cases h : x.st = 4
  · rw [if_pos h, if_pos (hs.2 h)]
  · rw [if_neg h, if_neg (fun e => h (hs.1 e))]
theorem kp_f3 (tl : Nat → Bool) (i : Nat) (x : Ch) : kpF (f3 tl i x) = kpF x := by
  unfold f3
  split
  · rename_i h; exact kpF_set x rfl ⟨fun e => absurd e (by simp), fun e => by rw [h.1] at e; exact absurd e (by decide)⟩
  · rfl
theorem kp_f5 (nl : Nat → Bool) (L : List Ch) (i : Nat) (x : Ch) : kpF (f5 nl L i x) = kpF x := by
  unfold f5
  split
  · rename_i h
    split
    · exact kpF_set x rfl ⟨fun e => absurd e (by simp), fun e => by rw [h.1] at e; exact absurd e (by decide)⟩
    · exact kpF_set x rfl Iff.rfl
  · rfl
theorem kp_f4 (nl gd : Nat → Bool) (i : Nat) (x : Ch) (h : nl i = true → x.st ≠ 4) : kpF (f4 nl gd i x) + frF nl gd i x = kpF x := by
  have hd : (f4a nl i x).p = x.p := by unfold f4a; split <;> rfl
  have hz : sz (f4a nl i x) = sz x := by unfold sz; rw [hd]
  have h4 : (f4a nl i x).st = 4 ↔ x.st = 4 := by
    unfold f4a
    split
    · rename_i hn; exact ⟨fun e => absurd e (by simp), fun e => absurd e (h hn)⟩
    · exact Iff.rfl
  have h3 : (f4a nl i x).st = 3 → x.st ≠ 4 := fun e e4 => by rw [h4.2 e4] at e; exact absurd e (by decide)
  unfold f4 frF
  by_cases hg : gd i = true ∧ (f4a nl i x).st = 3
  · rw [if_pos hg, if_pos hg]
    unfold kpF
    rw [if_pos rfl, if_neg (h3 hg.2)]
    omega
  · rw [if_neg hg, if_neg hg, kpF_set x (by rw [hd]) h4]
    omega
theorem opn_st {x : Ch} (h : opn x = true) : x.st = 1 ∨ x.st = 2 := by
  unfold opn at h
  simpa using h
theorem kp_L5 (tl gd : Nat → Bool) (L : List Ch) : kp (L5 tl gd L) + frV tl gd L = kp L := by
  have e1 : kp (L5 tl gd L) = sI (fun i x => kpF (f4 (nwl tl L) gd i (f3 tl i x))) L L.length := by
    have h := sI_const kpF (L5 tl gd L) (L5 tl gd L).length
    rw [List.take_length] at h
    unfold kp
    rw [← h, L5_len]
    unfold L5 L4 L3
    rw [sI_mapIdx, sI_mapIdx, sI_mapIdx]
    exact sI_congr L _ (fun i x _ _ => kp_f5 ..)
  have e2 : frV tl gd L = sI (fun i x => frF (nwl tl L) gd i (f3 tl i x)) L L.length := by
    unfold frV L3
    rw [sI_mapIdx]
  have e3 : kp L = sI (fun i x => kpF x) L L.length := by
    rw [sI_const, List.take_length]
    rfl
  rw [e1, e2, e3, ← sI_add]
  refine sI_congr L _ (fun i x _ hx => ?_)
  rw [kp_f4, kp_f3]
  intro hn
  rw [nwl_at hx, Bool.and_eq_true] at hn
  have := opn_st hn.2
  unfold f3
  split
  · simp
  · omega
theorem L5_four {tl gd : Nat → Bool} {L : List Ch} {i : Nat} {x : Ch} (hx : L[i]? = some x) (ht : tl i = true) (hg : gd i = true) (h1 : 1 ≤ x.st) (h4 : x.st ≤ 4) : (f5 (nwl tl L) L i (f4 (nwl tl L) gd i (f3 tl i x))).st = 4 := by
  have e3 : f3 tl i x = x := by unfold f3; rw [if_neg (fun e => by rw [ht] at e; exact absurd e.2 (by decide))]
  rw [e3]
  have e4 : (f4 (nwl tl L) gd i x).st = 4 := by
    unfold f4
    split
    · rfl
    · rename_i hn
      have hn3 : ¬ (f4a (nwl tl L) i x).st = 3 := fun e => hn ⟨hg, e⟩
      unfold f4a at hn3 ⊢
      rw [nwl_at hx, ht, Bool.true_and] at hn3 ⊢
      cases ho : opn x with
      | true => rw [ho, if_pos rfl] at hn3; exact absurd rfl hn3
      | false =>
        rw [ho] at hn3
        simp only [Bool.false_eq_true, if_false] at hn3 ⊢
        unfold opn at ho
        simp only [Bool.or_eq_false_iff, decide_eq_false_iff_not] at ho
        omega
  unfold f5
  rw [if_neg (fun e => by rw [e4] at e; exact absurd e.1 (by decide))]
  exact e4
theorem gd_tl {S : St} {q : Rq} {i : Nat} (h : i < upS S q) : tlS S q i = true ∧ gdS S q i = true := by
  unfold tlS gdS tlV gdV
  rw [decide_eq_true h]
  exact ⟨rfl, rfl⟩
/-- bytes that were kept are freed, or kept -/
theorem kp_rep {K : Nat} {S : St} (h : Good K S) (q : Rq) : kp (repS S q).L + frV (tlS S q) (gdS S q) S.L = kp S.L := by
  rw [← kp_L5 (tlS S q) (gdS S q) S.L]
  have : kp (repS S q).L = kp (L5 (tlS S q) (gdS S q) S.L) := by
    show sm kpF (List.drop _ _) = _
    refine sm_drop _ (fun y hy => ?_)
    obtain ⟨i, hi⟩ := List.mem_iff_getElem?.1 hy
    have hlt : i < upS S q := by
      have := (List.getElem?_eq_some_iff.1 hi).1
      rw [List.length_take] at this
      omega
    rw [List.getElem?_take, if_pos hlt, L5_at] at hi
    cases hx : S.L[i]? with
    | none => rw [hx] at hi; cases hi
    | some x =>
      rw [hx] at hi
      cases hi
      have hg := h.ch x (List.mem_of_getElem? hx)
      unfold kpF
      rw [if_pos (L5_four hx (gd_tl hlt).1 (gd_tl hlt).2 hg.st1 hg.st4)]
  rw [this]
/-- what was told already tells nothing new -/
structure Done (tl gd : Nat → Bool) (L : List Ch) : Prop where
  a : ∀ i y, L[i]? = some y → tl i = true → opn y = false
  b : ∀ i y, L[i]? = some y → y.st = 3 → tl i = true
  c : ∀ i y, L[i]? = some y → gd i = true → y.st ≠ 3
section
variable {tl gd : Nat → Bool} {L : List Ch}
theorem Done.nwl (h : Done tl gd L) : nwl tl L = fun _ => false := by
  funext i
  unfold Ob.nwl
  cases hx : L[i]? with
  | none => rfl
  | some x =>
    simp only []
    cases ht : tl i with
    | false => rfl
    | true => rw [h.a i x hx ht]; rfl
theorem map_same {f : Nat → Ch → Ch} (h : ∀ i y, L[i]? = some y → f i y = y) : L.mapIdx f = L := by
  apply List.ext_getElem?
  intro i
  rw [List.getElem?_mapIdx]
  cases hx : L[i]? with
  | none => rfl
  | some x => rw [Option.map_some, h i x hx]
theorem Done.l3 (h : Done tl gd L) : L3 tl L = L := map_same (fun i y hy => by
  unfold f3
  rw [if_neg (fun e => by have := h.b i y hy e.1; rw [this] at e; exact absurd e.2 (by decide))])
theorem Done.l4 (h : Done tl gd L) : L4 tl gd L = L := by
  unfold L4
  rw [h.l3, h.nwl]
  refine map_same (fun i y hy => ?_)
  unfold f4 f4a
  simp only [Bool.false_eq_true, if_false]
  rw [if_neg (fun e => h.c i y hy e.1 e.2)]
theorem lat_none (L : List Ch) (i : Nat) (p s : Int) : lat (fun _ => false) L i p s = false := by
  cases h : lat (fun _ => false) L i p s with
  | false => rfl
  | true => obtain ⟨j, y, _, _, h, _⟩ := lat_iff.1 h; cases h
theorem Done.l5 (h : Done tl gd L) : L5 tl gd L = L := by
  unfold L5
  rw [h.l4, h.nwl]
  refine map_same (fun i y hy => ?_)
  unfold f5
  rw [if_neg (fun e => by rw [lat_none] at e; exact absurd e.2 (by decide))]
theorem Done.fr (h : Done tl gd L) : frV tl gd L = 0 := by
  unfold frV
  rw [h.l3, h.nwl]
  refine sI_zero L _ (fun i x _ hx => ?_)
  unfold frF f4a
  simp only [Bool.false_eq_true, if_false]
  rw [if_neg (fun e => h.c i x hx e.1 e.2)]
theorem Done.rn (h : Done tl gd L) : rnV tl L = 0 := by
  refine sI_zero L _ (fun i x _ hx => ?_)
  unfold rnF
  rw [if_neg (fun e => by have := h.b i x hx e.1; rw [this] at e; exact absurd e.2 (by decide))]
theorem mvA_none (p : Int) (L : List Ch) : ∀ k, mvA (fun _ => false) p L k = false
  | 0 => rfl
  | k + 1 => by
    simp only [mvA]
    rw [mvA_none p L k]
    cases L[k]? with
    | none => rfl
    | some x => simp
theorem trA_none (now p : Int) (L : List Ch) : ∀ k, trA (fun _ => false) now p L k = -1
  | 0 => rfl
  | k + 1 => by
    simp only [trA]
    rw [trA_none now p L k]
    cases L[k]? with
    | none => rfl
    | some x => simp
theorem Done.ak (h : Done tl gd L) (now p : Int) : akV tl gd now L p = ⟨0, false, -1, 0⟩ := by
  unfold akV
  rw [h.nwl, mvA_none, trA_none, sI_zero L _ (fun i x _ _ => by unfold byF; simp), sI_zero _ _ (fun i x _ _ => by unfold loF; rw [lat_none]; simp)]
end
/-- a report that comes once more -/
theorem rep_done (S : St) (q : Rq) : Done (fun i => tlS S q (upS S q + i)) (fun i => gdS S q (upS S q + i)) (repS S q).L := by
  have key : ∀ i y, (repS S q).L[i]? = some y → ∃ x, S.L[upS S q + i]? = some x ∧ y = f5 (nwl (tlS S q) S.L) S.L (upS S q + i) (f4 (nwl (tlS S q) S.L) (gdS S q) (upS S q + i) (f3 (tlS S q) (upS S q + i) x)) := by
    intro i y hy
    have hy : (List.drop (upS S q) (L5 (tlS S q) (gdS S q) S.L))[i]? = some y := hy
    rw [List.getElem?_drop, L5_at] at hy
    cases hx : S.L[upS S q + i]? with
    | none => rw [hx] at hy; cases hy
    | some x => rw [hx] at hy; cases hy; exact ⟨x, rfl, rfl⟩
  have s5 : ∀ (nl : Nat → Bool) (L : List Ch) j z, (f5 nl L j z).st = 3 → z.st = 3 := by
    intro nl L j z h
    unfold f5 at h
    split at h
    · split at h
      · exact absurd h (by simp)
      · exact h
    · exact h
  have o5 : ∀ (nl : Nat → Bool) (L : List Ch) j z, opn (f5 nl L j z) = true → opn z = true := by
    intro nl L j z h
    unfold f5 at h
    split at h
    · rename_i h1; unfold opn; rw [h1.1]; rfl
    · exact h
  refine ⟨fun i y hy ht => ?_, fun i y hy h3 => ?_, fun i y hy hg h3 => ?_⟩
  · obtain ⟨x, hx, rfl⟩ := key i y hy
    generalize upS S q + i = j at *
    cases ho : opn (f5 (nwl (tlS S q) S.L) S.L j (f4 (nwl (tlS S q) S.L) (gdS S q) j (f3 (tlS S q) j x))) with
    | false => rfl
    | true =>
      have ho := o5 _ _ _ _ ho
      have e3 : f3 (tlS S q) j x = x := by unfold f3; rw [if_neg (fun e => by rw [ht] at e; exact absurd e.2 (by decide))]
      rw [e3] at ho
      unfold f4 at ho
      split at ho
      · exact absurd ho (by unfold opn; simp)
      · unfold f4a at ho
        rw [nwl_at hx, ht, Bool.true_and] at ho
        cases hp : opn x with
        | true => rw [hp, if_pos rfl] at ho; exact absurd ho (by unfold opn; simp)
        | false => rw [hp] at ho; simp only [Bool.false_eq_true, if_false] at ho; rw [hp] at ho; cases ho
  · obtain ⟨x, hx, rfl⟩ := key i y hy
    show tlS S q (upS S q + i) = true
    generalize upS S q + i = j at *
    have h3 := s5 _ _ _ _ h3
    cases ht : tlS S q j with
    | true => rfl
    | false =>
      exfalso
      unfold f4 at h3
      split at h3
      · exact absurd h3 (by simp)
      · unfold f4a at h3
        rw [nwl_at hx, ht] at h3
        simp only [Bool.false_and, Bool.false_eq_true, if_false] at h3
        unfold f3 at h3
        split at h3
        · exact absurd h3 (by simp)
        · rename_i h; exact h ⟨h3, ht⟩
  · obtain ⟨x, hx, rfl⟩ := key i y hy
    generalize upS S q + i = j at *
    have h3 := s5 _ _ _ _ h3
    unfold f4 at h3
    split at h3
    · exact absurd h3 (by simp)
    · rename_i h; exact h ⟨hg, h3⟩
theorem up_again {S : St} {q : Rq} : upS (repS S q) q = 0 := by unfold upS repS; simp
theorem tl_again {S : St} {q : Rq} : tlS (repS S q) q = (fun i => tlS S q (upS S q + i)) ∧ gdS (repS S q) q = (fun i => gdS S q (upS S q + i)) := by
  have h : ∀ i : Nat, gdV q.ns 0 i = gdV q.ns (upS S q) (upS S q + i) := fun i => by
    unfold gdV
    rw [show ((upS S q + i : Nat) : Int) + 1 - (upS S q : Int) = (i : Int) + 1 - (0 : Nat) by omega, decide_eq_false (show ¬ i < 0 by omega), decide_eq_false (show ¬ upS S q + i < upS S q by omega)]
  constructor
  · funext i
    unfold tlS tlV
    rw [up_again, h i, show ((upS S q + i : Nat) : Int) + 1 - (upS S q : Int) = (i : Int) + 1 - (0 : Nat) by omega]
  · funext i
    unfold gdS
    rw [up_again, h i]
theorem done_again (S : St) (q : Rq) : Done (tlS (repS S q) q) (gdS (repS S q) q) (repS S q).L := by
  rw [tl_again.1, tl_again.2]
  exact rep_done S q
theorem rep_again (S : St) (q : Rq) : repS (repS S q) q = repS S q := by
  have h := done_again S q
  show (⟨S.n, q.tsn, List.drop _ _⟩ : St) = _
  rw [h.l5, up_again]
  rfl
theorem repE_again {S : St} {q : Rq} {now : Int} (h : repE S q now = 0) : repE (repS S q) q now = 0 := by
  obtain ⟨h1, h2, h3⟩ := repE_up h
  have hl : ((repS S q).L.length : Int) = (S.L.length : Int) - (upS S q : Int) := by
    show ((List.drop _ _).length : Int) = _
    rw [List.length_drop, L5_len]
    omega
  have hz : (q.tsn - (repS S q).c) % 4294967296 = 0 := by show (q.tsn - q.tsn) % 4294967296 = 0; omega
  unfold repE at h ⊢
  rw [hz, hl]
  split at h
  · cases h
  · rename_i c1
    rw [if_neg c1]
    split at h
    · cases h
    · rename_i c2
      rw [if_neg c2, if_neg (by omega), if_neg (by omega)]
end Go.Proofs.Ytjceeckcfjjkkaa.Ob
