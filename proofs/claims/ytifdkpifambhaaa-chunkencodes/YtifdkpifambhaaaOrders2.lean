/-
  A region that draws its order, by facts: each operation leaves a fact of its own that no other operation takes away; whatever order is drawn, at the end all facts hold.
  Conditions: each operation's edges lead to operations ahead of it in the text.
-/
import Derived.WalkKit
import Derived.ProofKit
import Derived.Orders
namespace Go.Proofs.Ytifdkpifambhaaa.Ord
open Go.ChangeShapes Go.WideShapes Go.ChangeAt Go.RowKit
set_option linter.unusedVariables false

section
variable {P : Program} {ops : Array Oper} {Q : Exit → Act → World → Prop}

/-- edges lead back -/
def backB (ops : Array Oper) : Bool := (List.range ops.size).all fun i => match ops[i]? with
  | some o => o.after.all fun e => decide (e.on < i)
  | none => true

theorem back_of (h : backB ops = true) {i : Nat} {o : Oper} (ho : ops[i]? = some o) : ∀ e ∈ o.after, e.on < i := by
  intro e he
  have hi : i < ops.size := by
    rcases Nat.lt_or_ge i ops.size with h' | h'
    · exact h'
    · rw [Array.getElem?_eq_none h'] at ho; cases ho
  have h1 := List.all_eq_true.1 h i (List.mem_range.2 hi)
  rw [ho] at h1
  have h2 := Array.all_eq_true_iff_forall_mem.1 h1 e he
  simpa using h2

theorem all_listed (hback : backB ops = true) {listed : Array Bool} (hsz : listed.size = ops.size) (hr : Region.ready .any ops listed = []) : ∀ j, j < ops.size → listed.getD j false = true := by
  intro j
  induction j using Nat.strongRecOn with
  | _ j ih =>
    intro hj
    obtain ⟨o, ho⟩ : ∃ o, ops[j]? = some o := ⟨_, Array.getElem?_eq_getElem hj⟩
    have hn : ¬ j ∈ Region.ready .any ops listed := by rw [hr]; exact List.not_mem_nil
    rw [mem_ready] at hn
    have hg : listed.getD j false = listed.getD j true := by
      rw [Array.getD_eq_getD_getElem?, Array.getD_eq_getD_getElem?, Array.getElem?_eq_getElem (by omega)]
      rfl
    rw [hg]
    cases hb : listed.getD j true with
    | true => rfl
    | false =>
      exfalso
      refine hn ⟨hb, o, ho, fun e he _ => ?_⟩
      have hlt := back_of hback ho e he
      exact ih e.on hlt (by omega)

theorem any_facts (G : Act → World → Prop) (F : Nat → Act → World → Prop) (hback : backB ops = true)
    (hstep : ∀ i o a w, ops[i]? = some o → G a w → (∀ e ∈ o.after, Region.binds .any e = true → F e.on a w) →
      wpOp P ops Q i (fun a' w' => G a' w' ∧ F i a' w' ∧ ∀ j, j ≠ i → F j a w → F j a' w') a w)
    (hfin : ∀ a w, G a w → (∀ j, j < ops.size → F j a w) → Q .normal a w) :
    ∀ (fuel : Nat) (listed : Array Bool) (a : Act) (w : World), listed.size = ops.size →
      listed.toList.count false ≤ fuel → G a w → (∀ j, listed.getD j false = true → F j a w) → wpAny P .any ops Q fuel listed a w := by
  intro fuel
  induction fuel with
  | zero =>
    intro listed a w hsz hc hG hF
    have hall : ∀ j, j < ops.size → listed.getD j false = true := by
      intro j hj
      have h0 : ¬ false ∈ listed.toList := fun hm => by
        have := List.count_pos_iff.2 hm
        omega
      have hjl : j < listed.size := by omega
      rw [Array.getD_eq_getD_getElem?, Array.getElem?_eq_getElem hjl]
      cases hb : listed[j] with
      | true => rfl
      | false => exact absurd (by rw [← hb]; exact Array.mem_toList_iff.2 (Array.getElem_mem hjl)) h0
    refine ⟨?_, hfin a w hG (fun j hj => hF j (hall j hj))⟩
    apply List.eq_nil_iff_forall_not_mem.2
    intro i hi
    obtain ⟨h1, o, ho, _⟩ := mem_ready.1 hi
    have hi' : i < ops.size := by
      rcases Nat.lt_or_ge i ops.size with h' | h'
      · exact h'
      · rw [Array.getElem?_eq_none h'] at ho; cases ho
    have h2 := hall i hi'
    rw [Array.getD_eq_getD_getElem?, Array.getElem?_eq_getElem (by omega)] at h1 h2
    simp only [Option.getD_some] at h1 h2
    rw [h2] at h1
    cases h1
  | succ fuel ih =>
    intro listed a w hsz hc hG hF
    refine ⟨fun hr => hfin a w hG (fun j hj => hF j (all_listed hback hsz hr j hj)), fun i hi => ?_⟩
    obtain ⟨h1, o, ho, hdep⟩ := mem_ready.1 hi
    have hi' : i < ops.size := by
      rcases Nat.lt_or_ge i ops.size with h' | h'
      · exact h'
      · rw [Array.getElem?_eq_none h'] at ho; cases ho
    refine wpOp_mono ?_ (hstep i o a w ho hG (fun e he hb => hF e.on (hdep e he hb)))
    rintro a' w' ⟨hG', hFi, hFj⟩
    refine ih _ _ _ (by simpa using hsz) ?_ hG' ?_
    · rw [Array.toList_setIfInBounds]
      have hil : i < listed.toList.length := by simpa using (by omega : i < listed.size)
      have hb : listed.toList[i] = false := by
        rw [Array.getD_eq_getD_getElem?, Array.getElem?_eq_getElem (by omega)] at h1
        simpa using h1
      have := List.count_set (a := true) (b := false) hil
      rw [this, hb]
      have hpos : 0 < listed.toList.count false := List.count_pos_iff.2 (by rw [← hb]; exact List.getElem_mem hil)
      show listed.toList.count false - 1 + 0 ≤ fuel
      omega
    · intro j hj
      by_cases hij : j = i
      · subst hij; exact hFi
      · refine hFj j hij (hF j ?_)
        rw [Array.getD_eq_getD_getElem?, Array.getElem?_setIfInBounds] at hj
        rw [Array.getD_eq_getD_getElem?]
        rw [if_neg (fun h => hij h.symm)] at hj
        exact hj

/-- THE LAW -/
theorem wp_region_facts {id : Nat} {a : Act} {w : World} (hm : P.follows .mixedOrders = true) (G : Act → World → Prop) (F : Nat → Act → World → Prop) (hback : backB ops = true)
    (hstep : ∀ i o a w, ops[i]? = some o → G a w → (∀ e ∈ o.after, Region.binds .any e = true → F e.on a w) →
      wpOp P ops Q i (fun a' w' => G a' w' ∧ F i a' w' ∧ ∀ j, j ≠ i → F j a w → F j a' w') a w)
    (hfin : ∀ a w, G a w → (∀ j, j < ops.size → F j a w) → Q .normal a w) (h0 : G a w.drew) : (Code.region id ops true).wp P Q a w := by
  refine wp_region_any hm ?_
  refine any_facts G F hback hstep hfin _ _ _ _ (by simp) ?_ h0 ?_
  · rw [Array.toList_replicate]
    exact Nat.le_trans (List.count_le_length) (by simp)
  · intro j hj
    rw [Array.getD_eq_getD_getElem?, Array.getElem?_replicate] at hj
    split at hj <;> cases hj

/-- one operation that no guard holds back -/
theorem wpOp_of {i : Nat} {o : Oper} {K : Act → World → Prop} {a : Act} {w : World} (ho : ops[i]? = some o) (hw : Region.wanted o (yielded ops a.tmps) = true) (h : o.wp P a w K Q) : wpOp P ops Q i K a w := by
  unfold wpOp
  rw [ho]
  simp only [hw, if_true]
  exact .inl h

theorem wp_value {o : Oper} {K : Act → World → Prop} {a : Act} {w w' : World} {v : Value} (hr : (execOp a.eval o).run P w = .ok (.value v) w') (h : K (a.put o.dst v) w') : o.wp P a w K Q := by
  unfold Oper.wp
  rw [hr]
  exact h

theorem wp_enter {o : Oper} {K : Act → World → Prop} {a : Act} {w w' : World} {f : FuncId} {args : Array Value} (hr : (execOp a.eval o).run P w = .ok (.enter f args) w')
    (h : Calls P f args w' fun e w'' => ∃ v, e = .returned v ∧ K (a.put o.dst v) w'') : o.wp P a w K Q := by
  unfold Oper.wp
  rw [hr]
  refine Calls.mono h ?_
  rintro e w'' ⟨v, rfl, hk⟩
  exact hk

/-- slots behind a put -/
theorem eval_put_same (a : Act) (d : Nat) (v : Value) (h : d < a.tmps.size) : (a.put (some d) v).eval (.tmp d) = v := by
  simp [Act.put, Act.eval, h]
theorem eval_put_other (a : Act) (d s : Nat) (v : Value) (h : s ≠ d) : (a.put (some d) v).eval (.tmp s) = a.eval (.tmp s) := by
  simp only [Act.put, Act.eval, Array.getD_eq_getD_getElem?, Array.getElem?_setIfInBounds]
  rw [if_neg (fun e => h e.symm)]
theorem size_put (a : Act) (d : Nat) (v : Value) : (a.put (some d) v).tmps.size = a.tmps.size := by simp [Act.put]
end

section
variable {P : Program} {ops : Array Oper} {Q : Exit → Act → World → Prop}

/-- what an operation leaves, by its number -/
def fact (Es : List (Value → World → Prop)) (j : Nat) : Value → World → Prop := Es.getD j (fun _ _ => True)
/-- facts that memory made later does not take away -/
def Stays (E : Value → World → Prop) : Prop := ∀ v w w', Below w.heap.size w w' → E v w → E v w'
theorem stays_eq (u : Value) : Stays (fun v _ => v = u) := fun _ _ _ _ h => h
def Base (N : Nat) (keep : List (Nat × Value)) (W : World) (a : Act) (w : World) : Prop :=
  a.tmps.size = N ∧ a.defers = [] ∧ (∀ p ∈ keep, a.eval (.tmp p.1) = p.2) ∧ Below W.heap.size W w
def Left (D : List Nat) (Es : List (Value → World → Prop)) (j : Nat) (a : Act) (w : World) : Prop := fact Es j (a.eval (.tmp (D.getD j 0))) w
/-- slots of their own -/
def apartB (N : Nat) (ks : List Nat) (D : List Nat) : Bool := D.Nodup && D.all (fun d => decide (d < N) && ks.all (fun k => decide (k ≠ d)))
def dstsB (ops : Array Oper) (D : List Nat) : Bool := decide (ops.size = D.length) && (List.range D.length).all fun i => ((ops[i]?).bind (·.dst)) == some (D.getD i 0)

theorem wp_region_slots {id : Nat} {a : Act} {w : World} (hm : P.follows .mixedOrders = true) (N : Nat) (keep : List (Nat × Value)) (D : List Nat) (Es : List (Value → World → Prop)) (W : World)
    (hback : backB ops = true) (hap : apartB N (keep.map (·.1)) D = true) (hds : dstsB ops D = true) (hlen : Es.length = D.length) (hst : ∀ j, Stays (fact Es j))
    (hstep : ∀ i o a w, ops[i]? = some o → Base N keep W a w → (∀ e ∈ o.after, Region.binds .any e = true → Left D Es e.on a w) →
      wpOp P ops Q i (fun a' w' => ∃ v, a' = a.put o.dst v ∧ Below w.heap.size w w' ∧ fact Es i v w') a w)
    (hfin : ∀ a w, Base N keep W a w → (∀ j, j < ops.size → Left D Es j a w) → Q .normal a w) (h0 : Base N keep W a w.drew) : (Code.region id ops true).wp P Q a w := by
  simp only [apartB, Bool.and_eq_true, List.all_eq_true, decide_eq_true_eq] at hap
  simp only [dstsB, Bool.and_eq_true, List.all_eq_true, decide_eq_true_eq] at hds
  obtain ⟨hnd, hap⟩ := hap
  obtain ⟨hsz, hds⟩ := hds
  refine wp_region_facts hm (Base N keep W) (Left D Es) hback ?_ hfin h0
  intro i o a w ho hG hdep
  refine wpOp_mono ?_ (hstep i o a w ho hG hdep)
  rintro a' w' ⟨v, rfl, hb, hE⟩
  have hi : i < D.length := by
    rcases Nat.lt_or_ge i ops.size with h | h
    · omega
    · rw [Array.getElem?_eq_none h] at ho; cases ho
  have hd : o.dst = some (D.getD i 0) := by
    have := hds i (List.mem_range.2 hi)
    rw [ho] at this
    simpa using this
  have hDi : D.getD i 0 ∈ D := by rw [List.getD_eq_getElem?_getD, List.getElem?_eq_getElem hi]; exact List.getElem_mem hi
  obtain ⟨hlt, hks⟩ := hap _ hDi
  obtain ⟨h1, h2, h3, h4⟩ := hG
  rw [hd]
  refine ⟨⟨by rw [size_put]; exact h1, h2, fun p hp => ?_, h4.trans (hb.mono h4.size)⟩, ?_, fun j hj hF => ?_⟩
  · rw [eval_put_other _ _ _ _ (hks p.1 (List.mem_map.2 ⟨p, hp, rfl⟩))]; exact h3 p hp
  · unfold Left; rw [eval_put_same _ _ _ (by omega)]; exact hE
  · unfold Left
    rcases Nat.lt_or_ge j D.length with hjl | hjl
    · have hne : D.getD j 0 ≠ D.getD i 0 := by
        rw [List.getD_eq_getElem?_getD, List.getD_eq_getElem?_getD, List.getElem?_eq_getElem hi, List.getElem?_eq_getElem hjl]
        have hp := List.pairwise_iff_getElem.1 hnd
        rcases Nat.lt_or_gt_of_ne hj with h | h
        · exact hp j i hjl hi h
        · exact fun e => hp i j hi hjl h e.symm
      rw [eval_put_other _ _ _ _ hne]
      exact hst j _ _ _ hb hF
    · unfold fact
      rw [List.getD_eq_getElem?_getD, List.getElem?_eq_none (by omega)]
      trivial

theorem by_value {i : Nat} {o : Oper} {a : Act} {w w' : World} {v : Value} {E : Value → World → Prop} (ho : ops[i]? = some o) (hw : Region.wanted o (yielded ops a.tmps) = true)
    (hr : (execOp a.eval o).run P w = .ok (.value v) w') (hb : Below w.heap.size w w') (hE : E v w') : wpOp P ops Q i (fun a' w'' => ∃ v, a' = a.put o.dst v ∧ Below w.heap.size w w'' ∧ E v w'') a w :=
  wpOp_of ho hw (wp_value hr ⟨v, rfl, hb, hE⟩)
theorem by_call {i : Nat} {o : Oper} {a : Act} {w : World} {f : FuncId} {args : Array Value} {E : Value → World → Prop} (ho : ops[i]? = some o) (hw : Region.wanted o (yielded ops a.tmps) = true)
    (hr : (execOp a.eval o).run P w = .ok (.enter f args) w) (hc : Calls P f args w fun e w' => ∃ v, e = .returned v ∧ Below w.heap.size w w' ∧ E v w') :
    wpOp P ops Q i (fun a' w'' => ∃ v, a' = a.put o.dst v ∧ Below w.heap.size w w'' ∧ E v w'') a w :=
  wpOp_of ho hw (wp_enter hr (Calls.mono hc (by rintro e w' ⟨v, rfl, hb, hE⟩; exact ⟨v, rfl, v, rfl, hb, hE⟩)))
theorem wanted_of {a : Act} {o : Oper} {k d : Nat} {bv : Bool} (da : a.eval (.tmp d) = .bool bv) (hs : d < a.tmps.size) (ho : o.guard = some (k, bv)) (hk : (ops[k]?).bind (·.dst) = some d) : Region.wanted o (yielded ops a.tmps) = true := by
  have e : a.tmps[d]? = some (.bool bv) := by
    have : a.tmps.getD d undef = .bool bv := da
    rw [Array.getD_eq_getD_getElem?, Array.getElem?_eq_getElem (by omega)] at this
    rw [Array.getElem?_eq_getElem (by omega)]
    simpa using this
  simp [Region.wanted, yielded, ho, hk, e]
end

end Go.Proofs.Ytifdkpifambhaaa.Ord
