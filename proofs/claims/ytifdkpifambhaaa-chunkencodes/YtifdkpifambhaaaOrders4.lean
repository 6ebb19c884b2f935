/-
  A region that draws its order and whose operations yield what they yield whatever order is drawn: each operation's value is told ahead; of the world so much as is told of each set of operations that are done. Behind it the frame is the old one with these values put in.
  Conditions: each operation's edges lead to operations ahead of it in the text; the slots are of their own.
-/
import Derived.Test.YtifdkpifambhaaaOrders3
namespace Go.Proofs.Ytifdkpifambhaaa.Ord
open Go.ChangeShapes Go.WideShapes Go.ChangeAt Go.RowKit
set_option linter.unusedVariables false

section
variable {P : Program} {ops : Array Oper} {Q : Exit → Act → World → Prop}

/-- done operations are closed -/
def Closed (ops : Array Oper) (L : Nat → Bool) : Prop := ∀ (j : Nat) (o : Oper), ops[j]? = some o → L j = true → ∀ e ∈ o.after, Region.binds .any e = true → L e.on = true
def upd (L : Nat → Bool) (i : Nat) : Nat → Bool := fun j => decide (j = i) || L j
/-- values put in -/
def puts (a : Act) (l : List (Nat × Value)) : Act := l.foldl (fun a p => a.put (some p.1) p.2) a
theorem puts_size (l : List (Nat × Value)) : ∀ a : Act, (puts a l).tmps.size = a.tmps.size := by
  induction l with
  | nil => intro a; rfl
  | cons p l ih => intro a; exact (ih _).trans (size_put _ _ _)
theorem puts_defers (l : List (Nat × Value)) : ∀ a : Act, (puts a l).defers = a.defers := by
  induction l with
  | nil => intro a; rfl
  | cons p l ih => intro a; exact (ih _).trans rfl
theorem puts_not (l : List (Nat × Value)) (s : Nat) (h : s ∉ l.map (·.1)) : ∀ a : Act, (puts a l).eval (.tmp s) = a.eval (.tmp s) := by
  induction l with
  | nil => intro a; rfl
  | cons p l ih =>
    intro a
    simp only [List.map_cons, List.mem_cons, not_or] at h
    exact (ih h.2 _).trans (eval_put_other _ _ _ _ h.1)
theorem puts_in (l : List (Nat × Value)) (hn : (l.map (·.1)).Nodup) (d : Nat) (v : Value) (h : (d, v) ∈ l) : ∀ a : Act, d < a.tmps.size → (puts a l).eval (.tmp d) = v := by
  induction l with
  | nil => cases h
  | cons p l ih =>
    intro a hd
    simp only [List.map_cons, List.nodup_cons] at hn
    rcases List.mem_cons.1 h with e | h
    · subst e
      exact (puts_not l d hn.1 _).trans (eval_put_same _ _ _ hd)
    · exact ih hn.2 h _ (by rw [size_put]; exact hd)
theorem act_ext {a b : Act} (h1 : a.tmps.size = b.tmps.size) (h2 : a.defers = b.defers) (h3 : ∀ s, s < a.tmps.size → a.eval (.tmp s) = b.eval (.tmp s)) : a = b := by
  obtain ⟨ta, da⟩ := a
  obtain ⟨tb, db⟩ := b
  simp only at h1 h2 h3
  subst h2
  congr 1
  apply Array.ext h1
  intro i hi1 hi2
  have := h3 i hi1
  simpa [Act.eval, hi1, hi2] using this
theorem all_inv (G : (Nat → Bool) → Act → World → Prop) (hback : backB ops = true)
    (hstep : ∀ (L : Nat → Bool) (i : Nat) (o : Oper) (a : Act) (w : World), ops[i]? = some o → L i = false → Closed ops L → (∀ e ∈ o.after, Region.binds .any e = true → L e.on = true) → G L a w → wpOp P ops Q i (fun a' w' => G (upd L i) a' w') a w)
    (hext : ∀ L L' a w, (∀ j, j < ops.size → L j = L' j) → G L a w → G L' a w)
    (hfin : ∀ a w, G (fun _ => true) a w → Q .normal a w) :
    ∀ (fuel : Nat) (listed : Array Bool) (a : Act) (w : World), listed.size = ops.size → listed.toList.count false ≤ fuel → Closed ops (fun j => listed.getD j false) → G (fun j => listed.getD j false) a w → wpAny P .any ops Q fuel listed a w := by
  have fin : ∀ (listed : Array Bool) (a : Act) (w : World), (∀ j, j < ops.size → listed.getD j false = true) → G (fun j => listed.getD j false) a w → Q .normal a w := fun listed a w hall hG => hfin a w (hext _ _ a w hall hG)
  intro fuel
  induction fuel with
  | zero =>
    intro listed a w hsz hc hcl hG
    have hall : ∀ j, j < ops.size → listed.getD j false = true := by
      intro j hj
      have h0 : ¬ false ∈ listed.toList := fun hm => by
        have := List.count_pos_iff.2 hm
        omega
      have hjl : j < listed.size := by omega
      rw [Array.getD_eq_getD_getElem?, Array.getElem?_eq_getElem hjl]
      cases hb : listed[j] with
      | true => rfl
      | false => exact absurd (by rw [← hb]; exact Array.mem_toList_iff.2 (Array.getElem_mem hjl)) h0
    refine ⟨?_, fin listed a w hall hG⟩
    apply List.eq_nil_iff_forall_not_mem.2
    intro i hi
    obtain ⟨h1, o, ho, _⟩ := mem_ready.1 hi
    have hi' : i < ops.size := (Array.getElem?_eq_some_iff.1 ho).1
    have h2 := hall i hi'
    rw [Array.getD_eq_getD_getElem?, Array.getElem?_eq_getElem (by omega)] at h1 h2
    simp only [Option.getD_some] at h1 h2
    rw [h2] at h1
    cases h1
  | succ fuel ih =>
    intro listed a w hsz hc hcl hG
    refine ⟨fun hr => fin listed a w (all_listed hback hsz hr) hG, fun i hi => ?_⟩
    obtain ⟨h1, o, ho, hdep⟩ := mem_ready.1 hi
    have hi' : i < ops.size := (Array.getElem?_eq_some_iff.1 ho).1
    have h1' : listed.getD i false = false := by
      rw [Array.getD_eq_getD_getElem?, Array.getElem?_eq_getElem (by omega)] at h1 ⊢
      simpa using h1
    have hset : ∀ j, (listed.setIfInBounds i true).getD j false = upd (fun j => listed.getD j false) i j := by
      intro j
      unfold upd
      rw [Array.getD_eq_getD_getElem?, Array.getElem?_setIfInBounds]
      by_cases hij : i = j
      · subst hij
        simp [show i < listed.size by omega]
      · rw [if_neg hij]
        simp [show ¬ j = i from fun e => hij e.symm]
    refine wpOp_mono ?_ (hstep _ i o a w ho h1' hcl hdep hG)
    intro a' w' hG'
    refine ih _ _ _ (by simpa using hsz) ?_ ?_ (hext _ _ a' w' (fun j _ => (hset j).symm) hG')
    · rw [Array.toList_setIfInBounds]
      have hil : i < listed.toList.length := by simpa using (by omega : i < listed.size)
      have hb : listed.toList[i] = false := by
        rw [Array.getD_eq_getD_getElem?, Array.getElem?_eq_getElem (by omega)] at h1
        simpa using h1
      have := List.count_set (a := true) (b := false) hil
      rw [this, hb]
      have hpos : 0 < listed.toList.count false := List.count_pos_iff.2 (by rw [← hb]; exact List.getElem_mem hil)
      show listed.toList.count false - 1 + 0 ≤ fuel
      omega
    · intro j o' ho' hj e he hb
      simp only [hset] at hj ⊢
      unfold upd at hj ⊢
      simp only [Bool.or_eq_true, decide_eq_true_eq] at hj ⊢
      rcases hj with rfl | hj
      · rw [ho] at ho'
        cases ho'
        exact .inr (hdep e he hb)
      · exact .inr (hcl j o' ho' hj e he hb)
/-- the pairs of slots and values -/
def prs (l : List (Option Nat × Value)) : List (Nat × Value) := l.filterMap fun p => p.1.map (·, p.2)
def dstsOfB (ops : Array Oper) (l : List (Option Nat × Value)) : Bool := decide ((List.range ops.size).map (fun i => (ops[i]?).bind (·.dst)) = l.map (·.1))
def slotsB (N : Nat) (ds : List (Option Nat)) : Bool := decide ((ds.filterMap id).Nodup) && (ds.filterMap id).all (fun d => decide (d < N)) && (List.range ds.length).all fun i => (List.range ds.length).all fun j => decide (i = j) || decide (ds.getD i none ≠ ds.getD j none) || decide (ds.getD i none = none)
theorem prs_fst (l : List (Option Nat × Value)) : (prs l).map (·.1) = (l.map (·.1)).filterMap id := by
  induction l with
  | nil => rfl
  | cons p l ih =>
    obtain ⟨d, v⟩ := p
    cases d with
    | none => simpa [prs] using ih
    | some d => simp only [prs, List.filterMap_cons, Option.map_some, List.map_cons, id] at ih ⊢; rw [ih]
theorem prs_mem (l : List (Option Nat × Value)) (d : Nat) (v : Value) (h : (d, v) ∈ prs l) : ∃ j : Nat, l[j]? = some (some d, v) := by
  obtain ⟨p, hp, e⟩ := List.mem_filterMap.1 h
  obtain ⟨o, u⟩ := p
  cases o with
  | none => cases e
  | some d' =>
    simp at e
    obtain ⟨rfl, rfl⟩ := e
    obtain ⟨j, hj⟩ := List.mem_iff_getElem?.1 hp
    exact ⟨j, hj⟩
theorem rep_false (n j : Nat) : (fun j => (Array.replicate n false).getD j false) j = false := by
  show (Array.replicate n false).getD j false = false
  rw [Array.getD_eq_getD_getElem?, Array.getElem?_replicate]
  split <;> rfl
/-- what is known of the frame -/
def Fm (a0 : Act) (l : List (Option Nat × Value)) (L : Nat → Bool) (a : Act) : Prop :=
  a.tmps.size = a0.tmps.size ∧ a.defers = a0.defers ∧ (∀ s : Nat, (l.map (·.1)).contains (some s) = false → a.eval (.tmp s) = a0.eval (.tmp s)) ∧ ∀ (j d : Nat) (v : Value), l[j]? = some (some d, v) → L j = true → a.eval (.tmp d) = v
/-- THE LAW -/
theorem wp_region_det {rid : Nat} {a0 : Act} {w : World} (hm : P.follows .mixedOrders = true) (N : Nat) (l : List (Option Nat × Value)) (hN : a0.tmps.size = N) (hback : backB ops = true) (hd : (List.range ops.size).map (fun i => (ops[i]?).bind (·.dst)) = l.map (·.1)) (hs : slotsB N (l.map (·.1)) = true)
    (Wd : (Nat → Bool) → World → Prop) (hext : ∀ L L' w, (∀ j, j < ops.size → L j = L' j) → Wd L w → Wd L' w)
    (hstep : ∀ (L : Nat → Bool) (i : Nat) (o : Oper) (a : Act) (w : World), ops[i]? = some o → L i = false → Closed ops L → (∀ e ∈ o.after, Region.binds .any e = true → L e.on = true) → Fm a0 l L a → Wd L w → wpOp P ops Q i (fun a' w' => a' = a.put o.dst (l.getD i (none, undef)).2 ∧ Wd (upd L i) w') a w)
    (hfin : ∀ w', Wd (fun _ => true) w' → Q .normal (puts a0 (prs l)) w') (h0 : Wd (fun _ => false) w.drew) : (Code.region rid ops true).wp P Q a0 w := by
  simp only [slotsB, Bool.and_eq_true, decide_eq_true_eq, List.all_eq_true, List.mem_range, Bool.or_eq_true] at hs
  obtain ⟨⟨hnd, hlt⟩, hdis⟩ := hs
  have hlen : l.length = ops.size := by
    have := congrArg List.length hd
    simpa using this.symm
  have hdst : ∀ (i : Nat) (o : Oper), ops[i]? = some o → ∃ v, l[i]? = some (o.dst, v) := by
    intro i o ho
    have hi : i < ops.size := (Array.getElem?_eq_some_iff.1 ho).1
    have e := congrArg (fun x => x[i]?) hd
    simp only [List.getElem?_map, List.getElem?_range hi, Option.map_some, ho, Option.bind_some] at e
    cases hl : l[i]? with
    | none => rw [hl] at e; cases e
    | some p =>
      rw [hl] at e
      simp at e
      exact ⟨p.2, by rw [e]⟩
  have hdis' : ∀ (i j d : Nat) (v v' : Value), l[i]? = some (some d, v) → l[j]? = some (some d, v') → i = j := by
    intro i j d v v' h1 h2
    have hi := (List.getElem?_eq_some_iff.1 h1).1
    have hj := (List.getElem?_eq_some_iff.1 h2).1
    have := hdis i (by simpa using hi) j (by simpa using hj)
    simp only [List.getD_eq_getElem?_getD, List.getElem?_map, h1, h2, Option.map_some, Option.getD_some] at this
    rcases this with (h | h) | h
    · exact h
    · exact absurd rfl h
    · cases h
  have hcon : ∀ s : Nat, (l.map (·.1)).contains (some s) = false ↔ s ∉ (prs l).map (·.1) := by
    intro s
    rw [prs_fst]
    constructor
    · intro h hm
      obtain ⟨x, hx, e⟩ := List.mem_filterMap.1 hm
      simp at e
      subst e
      rw [← Bool.not_eq_true, List.contains_iff_mem] at h
      exact h hx
    · intro h
      rw [← Bool.not_eq_true, List.contains_iff_mem]
      exact fun hm => h (List.mem_filterMap.2 ⟨some s, hm, rfl⟩)
  have hin : ∀ (j d : Nat) (v : Value), l[j]? = some (some d, v) → d ∈ (prs l).map (·.1) ∧ d < N := by
    intro j d v h
    have hm : d ∈ (l.map (·.1)).filterMap id := List.mem_filterMap.2 ⟨some d, List.mem_map.2 ⟨(some d, v), List.mem_of_getElem? h, rfl⟩, rfl⟩
    exact ⟨by rw [prs_fst]; exact hm, hlt d hm⟩
  refine wp_region_any hm ?_
  refine all_inv (fun L a w => Fm a0 l L a ∧ Wd L w) hback ?_ ?_ ?_ _ _ _ _ (by simp) ?_ ?_ ?_
  · intro L i o a w ho hLi hcl hdep ⟨hF, hW⟩
    refine wpOp_mono ?_ (hstep L i o a w ho hLi hcl hdep hF hW)
    rintro a' w' ⟨rfl, hW'⟩
    refine ⟨?_, hW'⟩
    obtain ⟨f1, f2, f3, f4⟩ := hF
    obtain ⟨v, hv⟩ := hdst i o ho
    have ev : (l.getD i (none, undef)).2 = v := by rw [List.getD_eq_getElem?_getD, hv]; rfl
    rw [ev]
    cases hod : o.dst with
    | none =>
      refine ⟨f1, f2, f3, fun j d u hj hL => f4 j d u hj ?_⟩
      unfold upd at hL
      simp only [Bool.or_eq_true, decide_eq_true_eq] at hL
      rcases hL with rfl | hL
      · rw [hv, hod] at hj
        cases hj
      · exact hL
    | some d =>
      rw [hod] at hv
      obtain ⟨hm1, hm2⟩ := hin i d v hv
      refine ⟨by rw [size_put]; exact f1, f2, fun s hs => ?_, fun j d' u hj hL => ?_⟩
      · rw [eval_put_other _ _ _ _ (fun e => (hcon s).1 hs (by rw [e]; exact hm1))]
        exact f3 s hs
      · unfold upd at hL
        simp only [Bool.or_eq_true, decide_eq_true_eq] at hL
        by_cases hji : j = i
        · subst hji
          rw [hv] at hj
          cases hj
          exact eval_put_same _ _ _ (by rw [f1, hN]; exact hm2)
        · rw [eval_put_other _ _ _ _ (fun e => hji (hdis' j i d' u v hj (by rw [e]; exact hv)))]
          exact f4 j d' u hj (hL.resolve_left hji)
  · intro L L' a w hL ⟨⟨f1, f2, f3, f4⟩, hW⟩
    refine ⟨⟨f1, f2, f3, fun j d u hj hL' => f4 j d u hj ?_⟩, hext L L' w hL hW⟩
    rw [hL j (by rw [← hlen]; exact (List.getElem?_eq_some_iff.1 hj).1)]
    exact hL'
  · intro a w ⟨⟨f1, f2, f3, f4⟩, hW⟩
    have e : a = puts a0 (prs l) := by
      refine act_ext (by rw [puts_size]; exact f1) (by rw [puts_defers]; exact f2) (fun s hs => ?_)
      by_cases hm : s ∈ (prs l).map (·.1)
      · obtain ⟨⟨d, v⟩, hp, rfl⟩ := List.mem_map.1 hm
        obtain ⟨j, hj⟩ := prs_mem l d v hp
        rw [f4 j d v hj rfl, puts_in (prs l) (by rw [prs_fst]; exact hnd) d v hp a0 (by rw [hN]; exact (hin j d v hj).2)]
      · rw [f3 s ((hcon s).2 hm), puts_not _ _ hm]
    rw [e]
    exact hfin w hW
  · rw [Array.toList_replicate]
    exact Nat.le_trans (List.count_le_length) (by simp)
  · intro j o ho hj
    rw [rep_false] at hj
    cases hj
  · refine ⟨⟨rfl, rfl, fun _ _ => rfl, fun j d u hj hL => ?_⟩, hext _ _ _ (fun j hj => (rep_false _ j).symm) h0⟩
    rw [rep_false] at hL
    cases hL
/-- THE LAW, with whatever is to be kept -/
theorem wp_region_all {rid : Nat} {a0 : Act} {w : World} (hm : P.follows .mixedOrders = true) (G : (Nat → Bool) → Act → World → Prop) (hback : backB ops = true)
    (hstep : ∀ (L : Nat → Bool) (i : Nat) (o : Oper) (a : Act) (w : World), ops[i]? = some o → L i = false → Closed ops L → (∀ e ∈ o.after, Region.binds .any e = true → L e.on = true) → G L a w → wpOp P ops Q i (fun a' w' => G (upd L i) a' w') a w)
    (hext : ∀ L L' a w, (∀ j, j < ops.size → L j = L' j) → G L a w → G L' a w)
    (hfin : ∀ a w, G (fun _ => true) a w → Q .normal a w) (h0 : G (fun _ => false) a0 w.drew) : (Code.region rid ops true).wp P Q a0 w := by
  refine wp_region_any hm ?_
  refine all_inv G hback hstep hext hfin _ _ _ _ (by simp) ?_ ?_ ?_
  · rw [Array.toList_replicate]
    exact Nat.le_trans (List.count_le_length) (by simp)
  · intro j o ho hj
    rw [rep_false] at hj
    cases hj
  · exact hext _ _ _ _ (fun j hj => (rep_false _ j).symm) h0
/-- one operation -/
theorem det_value {i : Nat} {o : Oper} {a : Act} {w w' : World} {v u : Value} {R : World → Prop} (ho : ops[i]? = some o) (hw : Region.wanted o (yielded ops a.tmps) = true)
    (hr : (execOp a.eval o).run P w = .ok (.value v) w') (hv : v = u) (hR : R w') : wpOp P ops Q i (fun a' w'' => a' = a.put o.dst u ∧ R w'') a w :=
  wpOp_of ho hw (wp_value hr ⟨by rw [hv], hR⟩)
theorem det_skip {i : Nat} {o : Oper} {a : Act} {w w' : World} {u : Value} {R : World → Prop} (ho : ops[i]? = some o) (hw : Region.wanted o (yielded ops a.tmps) = true)
    (hr : (execOp a.eval o).run P w = .ok .skip w') (hd : o.dst = none) (hR : R w') : wpOp P ops Q i (fun a' w'' => a' = a.put o.dst u ∧ R w'') a w := by
  refine wpOp_of ho hw ?_
  unfold Oper.wp
  rw [hr]
  refine ⟨?_, hR⟩
  rw [hd]
  rfl
theorem det_call {i : Nat} {o : Oper} {a : Act} {w : World} {u : Value} {f : FuncId} {args : Array Value} {R : World → Prop} (ho : ops[i]? = some o) (hw : Region.wanted o (yielded ops a.tmps) = true)
    (hr : (execOp a.eval o).run P w = .ok (.enter f args) w) (hc : Calls P f args w fun e w' => e = .returned u ∧ R w') : wpOp P ops Q i (fun a' w'' => a' = a.put o.dst u ∧ R w'') a w :=
  wpOp_of ho hw (wp_enter hr (Calls.mono hc (by rintro e w' ⟨rfl, hR⟩; exact ⟨u, rfl, rfl, hR⟩)))
end
end Go.Proofs.Ytifdkpifambhaaa.Ord
