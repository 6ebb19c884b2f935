/-
  A region that draws its order, by facts: each operation leaves a fact of its own that no other operation takes away; whatever order is drawn, at the end all facts hold. A chain of comparisons in a plain region ('a.X == b.X && a.Y == b.Y && ..', 'a.X != b.X || ..'), link by link: whatever the guards say, the slot behind each link holds what the chain says so far. A region that draws its order and whose operations yield what they yield whatever order is drawn: each operation's value is told ahead; of the world so much as is told of each set of operations that are done. Behind it the frame is the old one with these values put in. As Orders4, where edges that do not bind may lead forward. A region that draws its order, most of whose values are told ahead; the others are letters until their operations are done. A slot keeps what it held until its operation is done.
  Conditions: as at each lemma.
-/
import Derived.WalkKit
import Derived.ProofKit
import Derived.Orders
namespace Go.Proofs.YtdifceikfnnfeaaDoor.Ord
open Go.ChangeShapes Go.WideShapes Go.ChangeAt Go.RowKit
set_option linter.unusedVariables false

section
variable {P : Program} {ops : Array Oper} {Q : Exit → Act → World → Prop}

/-- edges lead back -/
def backB (ops : Array Oper) : Bool := (List.range ops.size).all fun i => match ops[i]? with
  | some o => o.after.all fun e => decide (e.on < i)
  | none => true

theorem back_of (h : backB ops = true) {i : Nat} {o : Oper} (ho : ops[i]? = some o) : ∀ e ∈ o.after, e.on < i := by
  intro e he
  have hi : i < ops.size := by
    rcases Nat.lt_or_ge i ops.size with h' | h'
    · exact h'
    · rw [Array.getElem?_eq_none h'] at ho; cases ho
  have h1 := List.all_eq_true.1 h i (List.mem_range.2 hi)
  rw [ho] at h1
  have h2 := Array.all_eq_true_iff_forall_mem.1 h1 e he
  simpa using h2

theorem all_listed (hback : backB ops = true) {listed : Array Bool} (hsz : listed.size = ops.size) (hr : Region.ready .any ops listed = []) : ∀ j, j < ops.size → listed.getD j false = true := by
  intro j
  induction j using Nat.strongRecOn with
  | _ j ih =>
    intro hj
    obtain ⟨o, ho⟩ : ∃ o, ops[j]? = some o := ⟨_, Array.getElem?_eq_getElem hj⟩
    have hn : ¬ j ∈ Region.ready .any ops listed := by rw [hr]; exact List.not_mem_nil
    rw [mem_ready] at hn
    have hg : listed.getD j false = listed.getD j true := by
      rw [Array.getD_eq_getD_getElem?, Array.getD_eq_getD_getElem?, Array.getElem?_eq_getElem (by omega)]
      rfl
    rw [hg]
    cases hb : listed.getD j true with
    | true => rfl
    | false =>
      exfalso
      refine hn ⟨hb, o, ho, fun e he _ => ?_⟩
      have hlt := back_of hback ho e he
      exact ih e.on hlt (by omega)

theorem any_facts (G : Act → World → Prop) (F : Nat → Act → World → Prop) (hback : backB ops = true)
    (hstep : ∀ i o a w, ops[i]? = some o → G a w → (∀ e ∈ o.after, Region.binds .any e = true → F e.on a w) →
      wpOp P ops Q i (fun a' w' => G a' w' ∧ F i a' w' ∧ ∀ j, j ≠ i → F j a w → F j a' w') a w)
    (hfin : ∀ a w, G a w → (∀ j, j < ops.size → F j a w) → Q .normal a w) :
    ∀ (fuel : Nat) (listed : Array Bool) (a : Act) (w : World), listed.size = ops.size →
      listed.toList.count false ≤ fuel → G a w → (∀ j, listed.getD j false = true → F j a w) → wpAny P .any ops Q fuel listed a w := by
  intro fuel
  induction fuel with
  | zero =>
    intro listed a w hsz hc hG hF
    have hall : ∀ j, j < ops.size → listed.getD j false = true := by
      intro j hj
      have h0 : ¬ false ∈ listed.toList := fun hm => by
        have := List.count_pos_iff.2 hm
        omega
      have hjl : j < listed.size := by omega
      rw [Array.getD_eq_getD_getElem?, Array.getElem?_eq_getElem hjl]
      cases hb : listed[j] with
      | true => rfl
      | false => exact absurd (by rw [← hb]; exact Array.mem_toList_iff.2 (Array.getElem_mem hjl)) h0
    refine ⟨?_, hfin a w hG (fun j hj => hF j (hall j hj))⟩
    apply List.eq_nil_iff_forall_not_mem.2
    intro i hi
    obtain ⟨h1, o, ho, _⟩ := mem_ready.1 hi
    have hi' : i < ops.size := by
      rcases Nat.lt_or_ge i ops.size with h' | h'
      · exact h'
      · rw [Array.getElem?_eq_none h'] at ho; cases ho
    have h2 := hall i hi'
    rw [Array.getD_eq_getD_getElem?, Array.getElem?_eq_getElem (by omega)] at h1 h2
    simp only [Option.getD_some] at h1 h2
    rw [h2] at h1
    cases h1
  | succ fuel ih =>
    intro listed a w hsz hc hG hF
    refine ⟨fun hr => hfin a w hG (fun j hj => hF j (all_listed hback hsz hr j hj)), fun i hi => ?_⟩
    obtain ⟨h1, o, ho, hdep⟩ := mem_ready.1 hi
    have hi' : i < ops.size := by
      rcases Nat.lt_or_ge i ops.size with h' | h'
      · exact h'
      · rw [Array.getElem?_eq_none h'] at ho; cases ho
    refine wpOp_mono ?_ (hstep i o a w ho hG (fun e he hb => hF e.on (hdep e he hb)))
    rintro a' w' ⟨hG', hFi, hFj⟩
    refine ih _ _ _ (by simpa using hsz) ?_ hG' ?_
    · rw [Array.toList_setIfInBounds]
      have hil : i < listed.toList.length := by simpa using (by omega : i < listed.size)
      have hb : listed.toList[i] = false := by
        rw [Array.getD_eq_getD_getElem?, Array.getElem?_eq_getElem (by omega)] at h1
        simpa using h1
      have := List.count_set (a := true) (b := false) hil
      rw [this, hb]
      have hpos : 0 < listed.toList.count false := List.count_pos_iff.2 (by rw [← hb]; exact List.getElem_mem hil)
      show listed.toList.count false - 1 + 0 ≤ fuel
      omega
    · intro j hj
      by_cases hij : j = i
      · subst hij; exact hFi
      · refine hFj j hij (hF j ?_)
        rw [Array.getD_eq_getD_getElem?, Array.getElem?_setIfInBounds] at hj
        rw [Array.getD_eq_getD_getElem?]
        rw [if_neg (fun h => hij h.symm)] at hj
        exact hj

/-- THE LAW -/
theorem wp_region_facts {id : Nat} {a : Act} {w : World} (hm : P.follows .mixedOrders = true) (G : Act → World → Prop) (F : Nat → Act → World → Prop) (hback : backB ops = true)
    (hstep : ∀ i o a w, ops[i]? = some o → G a w → (∀ e ∈ o.after, Region.binds .any e = true → F e.on a w) →
      wpOp P ops Q i (fun a' w' => G a' w' ∧ F i a' w' ∧ ∀ j, j ≠ i → F j a w → F j a' w') a w)
    (hfin : ∀ a w, G a w → (∀ j, j < ops.size → F j a w) → Q .normal a w) (h0 : G a w.drew) : (Code.region id ops true).wp P Q a w := by
  refine wp_region_any hm ?_
  refine any_facts G F hback hstep hfin _ _ _ _ (by simp) ?_ h0 ?_
  · rw [Array.toList_replicate]
    exact Nat.le_trans (List.count_le_length) (by simp)
  · intro j hj
    rw [Array.getD_eq_getD_getElem?, Array.getElem?_replicate] at hj
    split at hj <;> cases hj

/-- one operation that no guard holds back -/
theorem wpOp_of {i : Nat} {o : Oper} {K : Act → World → Prop} {a : Act} {w : World} (ho : ops[i]? = some o) (hw : Region.wanted o (yielded ops a.tmps) = true) (h : o.wp P a w K Q) : wpOp P ops Q i K a w := by
  unfold wpOp
  rw [ho]
  simp only [hw, if_true]
  exact .inl h

theorem wp_value {o : Oper} {K : Act → World → Prop} {a : Act} {w w' : World} {v : Value} (hr : (execOp a.eval o).run P w = .ok (.value v) w') (h : K (a.put o.dst v) w') : o.wp P a w K Q := by
  unfold Oper.wp
  rw [hr]
  exact h

theorem wp_enter {o : Oper} {K : Act → World → Prop} {a : Act} {w w' : World} {f : FuncId} {args : Array Value} (hr : (execOp a.eval o).run P w = .ok (.enter f args) w')
    (h : Calls P f args w' fun e w'' => ∃ v, e = .returned v ∧ K (a.put o.dst v) w'') : o.wp P a w K Q := by
  unfold Oper.wp
  rw [hr]
  refine Calls.mono h ?_
  rintro e w'' ⟨v, rfl, hk⟩
  exact hk

/-- slots behind a put -/
theorem eval_put_same (a : Act) (d : Nat) (v : Value) (h : d < a.tmps.size) : (a.put (some d) v).eval (.tmp d) = v := by
  simp [Act.put, Act.eval, h]
theorem eval_put_other (a : Act) (d s : Nat) (v : Value) (h : s ≠ d) : (a.put (some d) v).eval (.tmp s) = a.eval (.tmp s) := by
  simp only [Act.put, Act.eval, Array.getD_eq_getD_getElem?, Array.getElem?_setIfInBounds]
  rw [if_neg (fun e => h e.symm)]
theorem size_put (a : Act) (d : Nat) (v : Value) : (a.put (some d) v).tmps.size = a.tmps.size := by simp [Act.put]
end

section
variable {P : Program} {ops : Array Oper} {Q : Exit → Act → World → Prop}

/-- what an operation leaves, by its number -/
def fact (Es : List (Value → World → Prop)) (j : Nat) : Value → World → Prop := Es.getD j (fun _ _ => True)
/-- facts that memory made later does not take away -/
def Stays (E : Value → World → Prop) : Prop := ∀ v w w', Below w.heap.size w w' → E v w → E v w'
theorem stays_eq (u : Value) : Stays (fun v _ => v = u) := fun _ _ _ _ h => h
def Base (N : Nat) (keep : List (Nat × Value)) (W : World) (a : Act) (w : World) : Prop :=
  a.tmps.size = N ∧ a.defers = [] ∧ (∀ p ∈ keep, a.eval (.tmp p.1) = p.2) ∧ Below W.heap.size W w
def Left (D : List Nat) (Es : List (Value → World → Prop)) (j : Nat) (a : Act) (w : World) : Prop := fact Es j (a.eval (.tmp (D.getD j 0))) w
/-- slots of their own -/
def apartB (N : Nat) (ks : List Nat) (D : List Nat) : Bool := D.Nodup && D.all (fun d => decide (d < N) && ks.all (fun k => decide (k ≠ d)))
def dstsB (ops : Array Oper) (D : List Nat) : Bool := decide (ops.size = D.length) && (List.range D.length).all fun i => ((ops[i]?).bind (·.dst)) == some (D.getD i 0)

theorem wp_region_slots {id : Nat} {a : Act} {w : World} (hm : P.follows .mixedOrders = true) (N : Nat) (keep : List (Nat × Value)) (D : List Nat) (Es : List (Value → World → Prop)) (W : World)
    (hback : backB ops = true) (hap : apartB N (keep.map (·.1)) D = true) (hds : dstsB ops D = true) (hlen : Es.length = D.length) (hst : ∀ j, Stays (fact Es j))
    (hstep : ∀ i o a w, ops[i]? = some o → Base N keep W a w → (∀ e ∈ o.after, Region.binds .any e = true → Left D Es e.on a w) →
      wpOp P ops Q i (fun a' w' => ∃ v, a' = a.put o.dst v ∧ Below w.heap.size w w' ∧ fact Es i v w') a w)
    (hfin : ∀ a w, Base N keep W a w → (∀ j, j < ops.size → Left D Es j a w) → Q .normal a w) (h0 : Base N keep W a w.drew) : (Code.region id ops true).wp P Q a w := by
  simp only [apartB, Bool.and_eq_true, List.all_eq_true, decide_eq_true_eq] at hap
  simp only [dstsB, Bool.and_eq_true, List.all_eq_true, decide_eq_true_eq] at hds
  obtain ⟨hnd, hap⟩ := hap
  obtain ⟨hsz, hds⟩ := hds
  refine wp_region_facts hm (Base N keep W) (Left D Es) hback ?_ hfin h0
  intro i o a w ho hG hdep
  refine wpOp_mono ?_ (hstep i o a w ho hG hdep)
  rintro a' w' ⟨v, rfl, hb, hE⟩
  have hi : i < D.length := by
    rcases Nat.lt_or_ge i ops.size with h | h
    · omega
    · rw [Array.getElem?_eq_none h] at ho; cases ho
  have hd : o.dst = some (D.getD i 0) := by
    have := hds i (List.mem_range.2 hi)
    rw [ho] at this
    simpa using this
  have hDi : D.getD i 0 ∈ D := by rw [List.getD_eq_getElem?_getD, List.getElem?_eq_getElem hi]; exact List.getElem_mem hi
  obtain ⟨hlt, hks⟩ := hap _ hDi
  obtain ⟨h1, h2, h3, h4⟩ := hG
  rw [hd]
  refine ⟨⟨by rw [size_put]; exact h1, h2, fun p hp => ?_, h4.trans (hb.mono h4.size)⟩, ?_, fun j hj hF => ?_⟩
  · rw [eval_put_other _ _ _ _ (hks p.1 (List.mem_map.2 ⟨p, hp, rfl⟩))]; exact h3 p hp
  · unfold Left; rw [eval_put_same _ _ _ (by omega)]; exact hE
  · unfold Left
    rcases Nat.lt_or_ge j D.length with hjl | hjl
    · have hne : D.getD j 0 ≠ D.getD i 0 := by
        rw [List.getD_eq_getElem?_getD, List.getD_eq_getElem?_getD, List.getElem?_eq_getElem hi, List.getElem?_eq_getElem hjl]
        have hp := List.pairwise_iff_getElem.1 hnd
        rcases Nat.lt_or_gt_of_ne hj with h | h
        · exact hp j i hjl hi h
        · exact fun e => hp i j hi hjl h e.symm
      rw [eval_put_other _ _ _ _ hne]
      exact hst j _ _ _ hb hF
    · unfold fact
      rw [List.getD_eq_getElem?_getD, List.getElem?_eq_none (by omega)]
      trivial

theorem by_value {i : Nat} {o : Oper} {a : Act} {w w' : World} {v : Value} {E : Value → World → Prop} (ho : ops[i]? = some o) (hw : Region.wanted o (yielded ops a.tmps) = true)
    (hr : (execOp a.eval o).run P w = .ok (.value v) w') (hb : Below w.heap.size w w') (hE : E v w') : wpOp P ops Q i (fun a' w'' => ∃ v, a' = a.put o.dst v ∧ Below w.heap.size w w'' ∧ E v w'') a w :=
  wpOp_of ho hw (wp_value hr ⟨v, rfl, hb, hE⟩)
theorem by_call {i : Nat} {o : Oper} {a : Act} {w : World} {f : FuncId} {args : Array Value} {E : Value → World → Prop} (ho : ops[i]? = some o) (hw : Region.wanted o (yielded ops a.tmps) = true)
    (hr : (execOp a.eval o).run P w = .ok (.enter f args) w) (hc : Calls P f args w fun e w' => ∃ v, e = .returned v ∧ Below w.heap.size w w' ∧ E v w') :
    wpOp P ops Q i (fun a' w'' => ∃ v, a' = a.put o.dst v ∧ Below w.heap.size w w'' ∧ E v w'') a w :=
  wpOp_of ho hw (wp_enter hr (Calls.mono hc (by rintro e w' ⟨v, rfl, hb, hE⟩; exact ⟨v, rfl, v, rfl, hb, hE⟩)))
theorem wanted_of {a : Act} {o : Oper} {k d : Nat} {bv : Bool} (da : a.eval (.tmp d) = .bool bv) (hs : d < a.tmps.size) (ho : o.guard = some (k, bv)) (hk : (ops[k]?).bind (·.dst) = some d) : Region.wanted o (yielded ops a.tmps) = true := by
  have e : a.tmps[d]? = some (.bool bv) := by
    have : a.tmps.getD d undef = .bool bv := da
    rw [Array.getD_eq_getD_getElem?, Array.getElem?_eq_getElem (by omega)] at this
    rw [Array.getElem?_eq_getElem (by omega)]
    simpa using this
  simp [Region.wanted, yielded, ho, hk, e]
end

end Go.Proofs.YtdifceikfnnfeaaDoor.Ord
namespace Go.Proofs.YtdifceikfnnfeaaDoor.Ord
open Go.ChangeShapes Go.WideShapes Go.ChangeAt Go.RowKit
set_option linter.unusedVariables false

section
variable {P : Program} {ops : Array Oper} {Q : Exit → Act → World → Prop}
theorem wpList_val {o : Oper} {rest : List Oper} {a : Act} {w w' : World} {d : Nat} {v : Value} (hw : Region.wanted o (yielded ops a.tmps) = true) (hd : o.dst = some d)
    (hr : (execOp a.eval o).run P w = .ok (.value v) w') (h : wpList P ops Q rest (a.put (some d) v) w') : wpList P ops Q (o :: rest) a w := by
  refine BigFrame.wpList_want hw fun K hK => wp_value hr (hK _ _ ?_)
  rw [hd]; exact h
theorem wpList_not {o : Oper} {rest : List Oper} {a : Act} {w : World} {d : Nat} (hw : Region.wanted o (yielded ops a.tmps) = false) (hd : o.dst = some d)
    (h : wpList P ops Q rest (a.put (some d) undef) w) : wpList P ops Q (o :: rest) a w := by
  unfold wpList
  rw [if_neg (by rw [hw]; decide), hd]
  exact h
theorem wanted_none {a : Act} {o : Oper} (h : o.guard = none) : Region.wanted o (yielded ops a.tmps) = true := by simp [Region.wanted, h]
theorem wanted_no {a : Act} {o : Oper} {k d : Nat} {bv : Bool} (da : a.eval (.tmp d) = .bool (!bv)) (hs : d < a.tmps.size) (ho : o.guard = some (k, bv)) (hk : (ops[k]?).bind (·.dst) = some d) : Region.wanted o (yielded ops a.tmps) = false := by
  have e : a.tmps[d]? = some (.bool (!bv)) := by
    have : a.tmps.getD d undef = .bool (!bv) := da
    rw [Array.getD_eq_getD_getElem?, Array.getElem?_eq_getElem (by omega)] at this
    rw [Array.getElem?_eq_getElem (by omega)]
    simpa using this
  cases bv <;> simp [Region.wanted, yielded, ho, hk, e]
/-- frames: so many slots, nothing deferred, what is kept -/
def Fr (N : Nat) (keep : List (Nat × Value)) (a : Act) : Prop := a.tmps.size = N ∧ a.defers = [] ∧ ∀ p ∈ keep, a.eval (.tmp p.1) = p.2
def clearB (N : Nat) (ks : List Nat) (d : Nat) : Bool := decide (d < N) && ks.all fun p => decide (p ≠ d)
theorem Fr.put {N : Nat} {keep : List (Nat × Value)} {a : Act} (h : Fr N keep a) (d : Nat) (v : Value) (hd : clearB N (keep.map (·.1)) d = true) : Fr N ((d, v) :: keep) (a.put (some d) v) := by
  simp only [clearB, Bool.and_eq_true, decide_eq_true_eq, List.all_eq_true] at hd
  refine ⟨by rw [size_put]; exact h.1, h.2.1, fun p hp => ?_⟩
  rcases List.mem_cons.1 hp with rfl | hp
  · exact eval_put_same _ _ _ (by rw [h.1]; exact hd.1)
  · rw [eval_put_other _ _ _ _ (hd.2 p.1 (List.mem_map.2 ⟨p, hp, rfl⟩))]; exact h.2.2 p hp
theorem Fr.drop {N : Nat} {p : Nat × Value} {keep : List (Nat × Value)} {a : Act} (h : Fr N (p :: keep) a) : Fr N keep a := ⟨h.1, h.2.1, fun q hq => h.2.2 q (List.mem_cons_of_mem _ hq)⟩
theorem Fr.only {N : Nat} {keep keep' : List (Nat × Value)} {a : Act} (h : Fr N keep a) (hs : ∀ p ∈ keep', p ∈ keep) : Fr N keep' a := ⟨h.1, h.2.1, fun q hq => h.2.2 q (hs q hq)⟩
theorem Fr.at0 {N d : Nat} {v : Value} {keep : List (Nat × Value)} {a : Act} (h : Fr N ((d, v) :: keep) a) : a.eval (.tmp d) = v := h.2.2 (d, v) (List.mem_cons_self ..)
/-- one operation that yields a value; the frame by what is kept -/
theorem st_val {o : Oper} {rest : List Oper} {a : Act} {w w' : World} {N d : Nat} {v : Value} {keep : List (Nat × Value)} (hF : Fr N keep a) (hg : o.guard = none) (hd : o.dst = some d) (hc : clearB N (keep.map (·.1)) d = true)
    (hr : (execOp a.eval o).run P w = .ok (.value v) w') (h : ∀ a', Fr N ((d, v) :: keep) a' → wpList P ops Q rest a' w') : wpList P ops Q (o :: rest) a w :=
  wpList_val (wanted_none hg) hd hr (h _ (hF.put d v hc))
theorem st_yes {o : Oper} {rest : List Oper} {a : Act} {w w' : World} {N d k g : Nat} {bv : Bool} {v : Value} {keep : List (Nat × Value)} (hF : Fr N keep a) (hg : o.guard = some (k, bv)) (hk : (ops[k]?).bind (·.dst) = some g) (hgv : a.eval (.tmp g) = .bool bv) (hgN : g < N) (hd : o.dst = some d) (hc : clearB N (keep.map (·.1)) d = true)
    (hr : (execOp a.eval o).run P w = .ok (.value v) w') (h : ∀ a', Fr N ((d, v) :: keep) a' → wpList P ops Q rest a' w') : wpList P ops Q (o :: rest) a w :=
  wpList_val (wanted_of hgv (by rw [hF.1]; exact hgN) hg hk) hd hr (h _ (hF.put d v hc))
theorem st_no {o : Oper} {rest : List Oper} {a : Act} {w : World} {N d k g : Nat} {bv : Bool} {keep : List (Nat × Value)} (hF : Fr N keep a) (hg : o.guard = some (k, bv)) (hk : (ops[k]?).bind (·.dst) = some g) (hgv : a.eval (.tmp g) = .bool (!bv)) (hgN : g < N) (hd : o.dst = some d) (hc : clearB N (keep.map (·.1)) d = true)
    (h : ∀ a', Fr N ((d, undef) :: keep) a' → wpList P ops Q rest a' w) : wpList P ops Q (o :: rest) a w :=
  wpList_not (wanted_no hgv (by rw [hF.1]; exact hgN) hg hk) hd (h _ (hF.put d undef hc))
theorem st_move {o : Oper} {rest : List Oper} {a : Act} {w : World} {N d s : Nat} {v : Value} {keep : List (Nat × Value)} (hF : Fr N ((s, v) :: keep) a) (hp : o.op = .move (.tmp s) ∨ o.op = .assign (.tmp s)) (hg : o.guard = none) (hd : o.dst = some d) (hc : clearB N (keep.map (·.1)) d = true)
    (h : ∀ a', Fr N ((d, v) :: keep) a' → wpList P ops Q rest a' w) : wpList P ops Q (o :: rest) a w := by
  refine st_val hF.drop hg hd hc ?_ h
  unfold execOp
  rcases hp with hp | hp <;> (rw [hp]; simp only [hF.at0, Sem.run_pure])
theorem run_v {m : Sem Value} {w w' : World} {v : Value} (h : m.run P w = .ok v w') : (do pure (Next.value (← m)) : Sem Next).run P w = .ok (.value v) w' := by
  simp only [Sem.run_bind, h, Result.andThen_ok, Sem.run_pure]
end

section
variable {P : Program} {ops : Array Oper} {Q : Exit → Act → World → Prop}

theorem link_and {rest : List Oper} {a : Act} {w : World} {N i B1 B2 T S : Nat} {κ : IntKind} {x y : Int} {b : Bool} {k g s1 s2 s3 s4 s5 s6 : Nat} {o1 o2 o3 o4 o5 o6 : Oper} {U : TypeId}
    (hfa : ∀ B, (Instr.fieldAt S (.pointer (some ⟨B, 0, none⟩)) i).run P w = .ok (.pointer (some ⟨B, i, none⟩)) w)
    (hld : ∀ B v, w.cell? ⟨B, i, none⟩ = some (.int κ v) → (Instr.loadAt T (.pointer (some ⟨B, i, none⟩))).run P w = .ok (.int κ v) w)
    (hcmp : ∀ X Y : Operand, (do eqGuard .eql T X Y (.int κ x) (.int κ y); binOp .eql T (.int κ x) (.int κ y)).run P w = .ok (.bool (x == y)) w)
    (c1 : w.cell? ⟨B1, i, none⟩ = some (.int κ x)) (c2 : w.cell? ⟨B2, i, none⟩ = some (.int κ y))
    (hF : Fr N [(g, .bool b), (2, .pointer (some ⟨B1, 0, none⟩)), (3, .pointer (some ⟨B2, 0, none⟩))] a)
    (p1 : o1.op = .fieldAddr S (.tmp 2) i) (p2 : o2.op = .load T (.tmp s1)) (p3 : o3.op = .fieldAddr S (.tmp 3) i) (p4 : o4.op = .load T (.tmp s3)) (p5 : o5.op = .binOp .eql T (.tmp s2) (.tmp s4) U) (p6 : o6.op = .pick (.tmp g) (.tmp s5) (.const (.bool false)))
    (q1 : o1.dst = some s1) (q2 : o2.dst = some s2) (q3 : o3.dst = some s3) (q4 : o4.dst = some s4) (q5 : o5.dst = some s5) (q6 : o6.dst = some s6)
    (r1 : o1.guard = some (k, true)) (r2 : o2.guard = some (k, true)) (r3 : o3.guard = some (k, true)) (r4 : o4.guard = some (k, true)) (r5 : o5.guard = some (k, true)) (r6 : o6.guard = none)
    (hk : (ops[k]?).bind (·.dst) = some g) (lg : g < N) (k1 : clearB N [g, 2, 3] s1 = true) (k2 : clearB N [s1, g, 2, 3] s2 = true) (k3 : clearB N [s2, s1, g, 2, 3] s3 = true) (k4 : clearB N [s3, s2, s1, g, 2, 3] s4 = true) (k5 : clearB N [s4, s3, s2, s1, g, 2, 3] s5 = true) (k6 : clearB N [s5, s4, s3, s2, s1, g, 2, 3] s6 = true)
    (h : ∀ a', Fr N [(s6, .bool (b && (x == y))), (2, .pointer (some ⟨B1, 0, none⟩)), (3, .pointer (some ⟨B2, 0, none⟩))] a' → wpList P ops Q rest a' w) : wpList P ops Q (o1 :: o2 :: o3 :: o4 :: o5 :: o6 :: rest) a w := by
  cases b with
  | true =>
    refine st_yes hF r1 hk hF.at0 lg q1 k1 (v := .pointer (some ⟨B1, i, none⟩)) (w' := w) ?_ fun A1 H1 => ?_
    · unfold execOp; rw [p1]; simp only [hF.drop.at0]; exact run_v (hfa B1)
    refine st_yes H1 r2 hk H1.drop.at0 lg q2 k2 (v := .int κ x) (w' := w) ?_ fun A2 H2 => ?_
    · unfold execOp; rw [p2]; simp only [H1.at0]; exact run_v (hld B1 x c1)
    refine st_yes H2 r3 hk H2.drop.drop.at0 lg q3 k3 (v := .pointer (some ⟨B2, i, none⟩)) (w' := w) ?_ fun A3 H3 => ?_
    · unfold execOp; rw [p3]; simp only [H2.drop.drop.drop.drop.at0]; exact run_v (hfa B2)
    refine st_yes H3 r4 hk H3.drop.drop.drop.at0 lg q4 k4 (v := .int κ y) (w' := w) ?_ fun A4 H4 => ?_
    · unfold execOp; rw [p4]; simp only [H3.at0]; exact run_v (hld B2 y c2)
    refine st_yes H4 r5 hk H4.drop.drop.drop.drop.at0 lg q5 k5 (v := .bool (x == y)) (w' := w) ?_ fun A5 H5 => ?_
    · unfold execOp; rw [p5]; simp only [H4.at0, H4.drop.drop.at0]; exact run_v (hcmp _ _)
    refine st_val H5 r6 q6 k6 (v := .bool (true && (x == y))) (w' := w) ?_ fun A6 H6 => ?_
    · unfold execOp; rw [p6]; simp only [H5.at0, H5.drop.drop.drop.drop.drop.at0, BigFrame.eval_const]; simp [asBool]
    exact h A6 (H6.only (by intro p hp; simp only [List.mem_cons, List.not_mem_nil, or_false] at hp ⊢; rcases hp with rfl | rfl | rfl <;> simp))
  | false =>
    refine st_no hF r1 hk hF.at0 lg q1 k1 fun A1 H1 => ?_
    refine st_no H1 r2 hk H1.drop.at0 lg q2 k2 fun A2 H2 => ?_
    refine st_no H2 r3 hk H2.drop.drop.at0 lg q3 k3 fun A3 H3 => ?_
    refine st_no H3 r4 hk H3.drop.drop.drop.at0 lg q4 k4 fun A4 H4 => ?_
    refine st_no H4 r5 hk H4.drop.drop.drop.drop.at0 lg q5 k5 fun A5 H5 => ?_
    refine st_val H5 r6 q6 k6 (v := .bool (false && (x == y))) (w' := w) ?_ fun A6 H6 => ?_
    · unfold execOp; rw [p6]; simp only [H5.drop.drop.drop.drop.drop.at0, BigFrame.eval_const]; simp [asBool]
    exact h A6 (H6.only (by intro p hp; simp only [List.mem_cons, List.not_mem_nil, or_false] at hp ⊢; rcases hp with rfl | rfl | rfl <;> simp))
theorem link_or {rest : List Oper} {a : Act} {w : World} {N i B1 B2 T S : Nat} {κ : IntKind} {x y : Int} {b : Bool} {k g s1 s2 s3 s4 s5 s6 : Nat} {o1 o2 o3 o4 o5 o6 : Oper} {U : TypeId}
    (hfa : ∀ B, (Instr.fieldAt S (.pointer (some ⟨B, 0, none⟩)) i).run P w = .ok (.pointer (some ⟨B, i, none⟩)) w)
    (hld : ∀ B v, w.cell? ⟨B, i, none⟩ = some (.int κ v) → (Instr.loadAt T (.pointer (some ⟨B, i, none⟩))).run P w = .ok (.int κ v) w)
    (hcmp : ∀ X Y : Operand, (do eqGuard .neq T X Y (.int κ x) (.int κ y); binOp .neq T (.int κ x) (.int κ y)).run P w = .ok (.bool (x != y)) w)
    (c1 : w.cell? ⟨B1, i, none⟩ = some (.int κ x)) (c2 : w.cell? ⟨B2, i, none⟩ = some (.int κ y))
    (hF : Fr N [(g, .bool b), (2, .pointer (some ⟨B1, 0, none⟩)), (3, .pointer (some ⟨B2, 0, none⟩))] a)
    (p1 : o1.op = .fieldAddr S (.tmp 2) i) (p2 : o2.op = .load T (.tmp s1)) (p3 : o3.op = .fieldAddr S (.tmp 3) i) (p4 : o4.op = .load T (.tmp s3)) (p5 : o5.op = .binOp .neq T (.tmp s2) (.tmp s4) U) (p6 : o6.op = .pick (.tmp g) (.const (.bool true)) (.tmp s5))
    (q1 : o1.dst = some s1) (q2 : o2.dst = some s2) (q3 : o3.dst = some s3) (q4 : o4.dst = some s4) (q5 : o5.dst = some s5) (q6 : o6.dst = some s6)
    (r1 : o1.guard = some (k, false)) (r2 : o2.guard = some (k, false)) (r3 : o3.guard = some (k, false)) (r4 : o4.guard = some (k, false)) (r5 : o5.guard = some (k, false)) (r6 : o6.guard = none)
    (hk : (ops[k]?).bind (·.dst) = some g) (lg : g < N) (k1 : clearB N [g, 2, 3] s1 = true) (k2 : clearB N [s1, g, 2, 3] s2 = true) (k3 : clearB N [s2, s1, g, 2, 3] s3 = true) (k4 : clearB N [s3, s2, s1, g, 2, 3] s4 = true) (k5 : clearB N [s4, s3, s2, s1, g, 2, 3] s5 = true) (k6 : clearB N [s5, s4, s3, s2, s1, g, 2, 3] s6 = true)
    (h : ∀ a', Fr N [(s6, .bool (b || (x != y))), (2, .pointer (some ⟨B1, 0, none⟩)), (3, .pointer (some ⟨B2, 0, none⟩))] a' → wpList P ops Q rest a' w) : wpList P ops Q (o1 :: o2 :: o3 :: o4 :: o5 :: o6 :: rest) a w := by
  cases b with
  | false =>
    refine st_yes hF r1 hk hF.at0 lg q1 k1 (v := .pointer (some ⟨B1, i, none⟩)) (w' := w) ?_ fun A1 H1 => ?_
    · unfold execOp; rw [p1]; simp only [hF.drop.at0]; exact run_v (hfa B1)
    refine st_yes H1 r2 hk H1.drop.at0 lg q2 k2 (v := .int κ x) (w' := w) ?_ fun A2 H2 => ?_
    · unfold execOp; rw [p2]; simp only [H1.at0]; exact run_v (hld B1 x c1)
    refine st_yes H2 r3 hk H2.drop.drop.at0 lg q3 k3 (v := .pointer (some ⟨B2, i, none⟩)) (w' := w) ?_ fun A3 H3 => ?_
    · unfold execOp; rw [p3]; simp only [H2.drop.drop.drop.drop.at0]; exact run_v (hfa B2)
    refine st_yes H3 r4 hk H3.drop.drop.drop.at0 lg q4 k4 (v := .int κ y) (w' := w) ?_ fun A4 H4 => ?_
    · unfold execOp; rw [p4]; simp only [H3.at0]; exact run_v (hld B2 y c2)
    refine st_yes H4 r5 hk H4.drop.drop.drop.drop.at0 lg q5 k5 (v := .bool (x != y)) (w' := w) ?_ fun A5 H5 => ?_
    · unfold execOp; rw [p5]; simp only [H4.at0, H4.drop.drop.at0]; exact run_v (hcmp _ _)
    refine st_val H5 r6 q6 k6 (v := .bool (false || (x != y))) (w' := w) ?_ fun A6 H6 => ?_
    · unfold execOp; rw [p6]; simp only [H5.at0, H5.drop.drop.drop.drop.drop.at0, BigFrame.eval_const]; simp [asBool]
    exact h A6 (H6.only (by intro p hp; simp only [List.mem_cons, List.not_mem_nil, or_false] at hp ⊢; rcases hp with rfl | rfl | rfl <;> simp))
  | true =>
    refine st_no hF r1 hk hF.at0 lg q1 k1 fun A1 H1 => ?_
    refine st_no H1 r2 hk H1.drop.at0 lg q2 k2 fun A2 H2 => ?_
    refine st_no H2 r3 hk H2.drop.drop.at0 lg q3 k3 fun A3 H3 => ?_
    refine st_no H3 r4 hk H3.drop.drop.drop.at0 lg q4 k4 fun A4 H4 => ?_
    refine st_no H4 r5 hk H4.drop.drop.drop.drop.at0 lg q5 k5 fun A5 H5 => ?_
    refine st_val H5 r6 q6 k6 (v := .bool (true || (x != y))) (w' := w) ?_ fun A6 H6 => ?_
    · unfold execOp; rw [p6]; simp only [H5.drop.drop.drop.drop.drop.at0, BigFrame.eval_const]; simp [asBool]
    exact h A6 (H6.only (by intro p hp; simp only [List.mem_cons, List.not_mem_nil, or_false] at hp ⊢; rcases hp with rfl | rfl | rfl <;> simp))
theorem first_eq {rest : List Oper} {a : Act} {w : World} {N i B1 B2 T S : Nat} {κ : IntKind} {x y : Int} {s1 s2 s3 s4 s5 : Nat} {o1 o2 o3 o4 o5 : Oper} {U : TypeId}
    (hfa : ∀ B, (Instr.fieldAt S (.pointer (some ⟨B, 0, none⟩)) i).run P w = .ok (.pointer (some ⟨B, i, none⟩)) w)
    (hld : ∀ B v, w.cell? ⟨B, i, none⟩ = some (.int κ v) → (Instr.loadAt T (.pointer (some ⟨B, i, none⟩))).run P w = .ok (.int κ v) w)
    (hcmp : ∀ X Y : Operand, (do eqGuard .eql T X Y (.int κ x) (.int κ y); binOp .eql T (.int κ x) (.int κ y)).run P w = .ok (.bool (x == y)) w)
    (c1 : w.cell? ⟨B1, i, none⟩ = some (.int κ x)) (c2 : w.cell? ⟨B2, i, none⟩ = some (.int κ y))
    (hF : Fr N [(2, .pointer (some ⟨B1, 0, none⟩)), (3, .pointer (some ⟨B2, 0, none⟩))] a)
    (p1 : o1.op = .fieldAddr S (.tmp 2) i) (p2 : o2.op = .load T (.tmp s1)) (p3 : o3.op = .fieldAddr S (.tmp 3) i) (p4 : o4.op = .load T (.tmp s3)) (p5 : o5.op = .binOp .eql T (.tmp s2) (.tmp s4) U)
    (q1 : o1.dst = some s1) (q2 : o2.dst = some s2) (q3 : o3.dst = some s3) (q4 : o4.dst = some s4) (q5 : o5.dst = some s5)
    (r1 : o1.guard = none) (r2 : o2.guard = none) (r3 : o3.guard = none) (r4 : o4.guard = none) (r5 : o5.guard = none)
    (k1 : clearB N [2, 3] s1 = true) (k2 : clearB N [s1, 2, 3] s2 = true) (k3 : clearB N [s2, s1, 2, 3] s3 = true) (k4 : clearB N [s3, s2, s1, 2, 3] s4 = true) (k5 : clearB N [s4, s3, s2, s1, 2, 3] s5 = true)
    (h : ∀ a', Fr N [(s5, .bool (x == y)), (2, .pointer (some ⟨B1, 0, none⟩)), (3, .pointer (some ⟨B2, 0, none⟩))] a' → wpList P ops Q rest a' w) : wpList P ops Q (o1 :: o2 :: o3 :: o4 :: o5 :: rest) a w := by
  refine st_val hF r1 q1 k1 (v := .pointer (some ⟨B1, i, none⟩)) (w' := w) ?_ fun A1 H1 => ?_
  · unfold execOp; rw [p1]; simp only [hF.at0]; exact run_v (hfa B1)
  refine st_val H1 r2 q2 k2 (v := .int κ x) (w' := w) ?_ fun A2 H2 => ?_
  · unfold execOp; rw [p2]; simp only [H1.at0]; exact run_v (hld B1 x c1)
  refine st_val H2 r3 q3 k3 (v := .pointer (some ⟨B2, i, none⟩)) (w' := w) ?_ fun A3 H3 => ?_
  · unfold execOp; rw [p3]; simp only [H2.drop.drop.drop.at0]; exact run_v (hfa B2)
  refine st_val H3 r4 q4 k4 (v := .int κ y) (w' := w) ?_ fun A4 H4 => ?_
  · unfold execOp; rw [p4]; simp only [H3.at0]; exact run_v (hld B2 y c2)
  refine st_val H4 r5 q5 k5 (v := .bool (x == y)) (w' := w) ?_ fun A5 H5 => ?_
  · unfold execOp; rw [p5]; simp only [H4.at0, H4.drop.drop.at0]; exact run_v (hcmp _ _)
  exact h A5 (H5.only (by intro p hp; simp only [List.mem_cons, List.not_mem_nil, or_false] at hp ⊢; rcases hp with rfl | rfl | rfl <;> simp))
theorem first_ne {rest : List Oper} {a : Act} {w : World} {N i B1 B2 T S : Nat} {κ : IntKind} {x y : Int} {s1 s2 s3 s4 s5 : Nat} {o1 o2 o3 o4 o5 : Oper} {U : TypeId}
    (hfa : ∀ B, (Instr.fieldAt S (.pointer (some ⟨B, 0, none⟩)) i).run P w = .ok (.pointer (some ⟨B, i, none⟩)) w)
    (hld : ∀ B v, w.cell? ⟨B, i, none⟩ = some (.int κ v) → (Instr.loadAt T (.pointer (some ⟨B, i, none⟩))).run P w = .ok (.int κ v) w)
    (hcmp : ∀ X Y : Operand, (do eqGuard .neq T X Y (.int κ x) (.int κ y); binOp .neq T (.int κ x) (.int κ y)).run P w = .ok (.bool (x != y)) w)
    (c1 : w.cell? ⟨B1, i, none⟩ = some (.int κ x)) (c2 : w.cell? ⟨B2, i, none⟩ = some (.int κ y))
    (hF : Fr N [(2, .pointer (some ⟨B1, 0, none⟩)), (3, .pointer (some ⟨B2, 0, none⟩))] a)
    (p1 : o1.op = .fieldAddr S (.tmp 2) i) (p2 : o2.op = .load T (.tmp s1)) (p3 : o3.op = .fieldAddr S (.tmp 3) i) (p4 : o4.op = .load T (.tmp s3)) (p5 : o5.op = .binOp .neq T (.tmp s2) (.tmp s4) U)
    (q1 : o1.dst = some s1) (q2 : o2.dst = some s2) (q3 : o3.dst = some s3) (q4 : o4.dst = some s4) (q5 : o5.dst = some s5)
    (r1 : o1.guard = none) (r2 : o2.guard = none) (r3 : o3.guard = none) (r4 : o4.guard = none) (r5 : o5.guard = none)
    (k1 : clearB N [2, 3] s1 = true) (k2 : clearB N [s1, 2, 3] s2 = true) (k3 : clearB N [s2, s1, 2, 3] s3 = true) (k4 : clearB N [s3, s2, s1, 2, 3] s4 = true) (k5 : clearB N [s4, s3, s2, s1, 2, 3] s5 = true)
    (h : ∀ a', Fr N [(s5, .bool (x != y)), (2, .pointer (some ⟨B1, 0, none⟩)), (3, .pointer (some ⟨B2, 0, none⟩))] a' → wpList P ops Q rest a' w) : wpList P ops Q (o1 :: o2 :: o3 :: o4 :: o5 :: rest) a w := by
  refine st_val hF r1 q1 k1 (v := .pointer (some ⟨B1, i, none⟩)) (w' := w) ?_ fun A1 H1 => ?_
  · unfold execOp; rw [p1]; simp only [hF.at0]; exact run_v (hfa B1)
  refine st_val H1 r2 q2 k2 (v := .int κ x) (w' := w) ?_ fun A2 H2 => ?_
  · unfold execOp; rw [p2]; simp only [H1.at0]; exact run_v (hld B1 x c1)
  refine st_val H2 r3 q3 k3 (v := .pointer (some ⟨B2, i, none⟩)) (w' := w) ?_ fun A3 H3 => ?_
  · unfold execOp; rw [p3]; simp only [H2.drop.drop.drop.at0]; exact run_v (hfa B2)
  refine st_val H3 r4 q4 k4 (v := .int κ y) (w' := w) ?_ fun A4 H4 => ?_
  · unfold execOp; rw [p4]; simp only [H3.at0]; exact run_v (hld B2 y c2)
  refine st_val H4 r5 q5 k5 (v := .bool (x != y)) (w' := w) ?_ fun A5 H5 => ?_
  · unfold execOp; rw [p5]; simp only [H4.at0, H4.drop.drop.at0]; exact run_v (hcmp _ _)
  exact h A5 (H5.only (by intro p hp; simp only [List.mem_cons, List.not_mem_nil, or_false] at hp ⊢; rcases hp with rfl | rfl | rfl <;> simp))
end
end Go.Proofs.YtdifceikfnnfeaaDoor.Ord
namespace Go.Proofs.YtdifceikfnnfeaaDoor.Ord
open Go.ChangeShapes Go.WideShapes Go.ChangeAt Go.RowKit
set_option linter.unusedVariables false

section
variable {P : Program} {ops : Array Oper} {Q : Exit → Act → World → Prop}

/-- done operations are closed -/
def Closed (ops : Array Oper) (L : Nat → Bool) : Prop := ∀ (j : Nat) (o : Oper), ops[j]? = some o → L j = true → ∀ e ∈ o.after, Region.binds .any e = true → L e.on = true
def upd (L : Nat → Bool) (i : Nat) : Nat → Bool := fun j => decide (j = i) || L j
/-- values put in -/
def puts (a : Act) (l : List (Nat × Value)) : Act := l.foldl (fun a p => a.put (some p.1) p.2) a
theorem puts_size (l : List (Nat × Value)) : ∀ a : Act, (puts a l).tmps.size = a.tmps.size := by
  induction l with
  | nil => intro a; rfl
  | cons p l ih => intro a; exact (ih _).trans (size_put _ _ _)
theorem puts_defers (l : List (Nat × Value)) : ∀ a : Act, (puts a l).defers = a.defers := by
  induction l with
  | nil => intro a; rfl
  | cons p l ih => intro a; exact (ih _).trans rfl
theorem puts_not (l : List (Nat × Value)) (s : Nat) (h : s ∉ l.map (·.1)) : ∀ a : Act, (puts a l).eval (.tmp s) = a.eval (.tmp s) := by
  induction l with
  | nil => intro a; rfl
  | cons p l ih =>
    intro a
    simp only [List.map_cons, List.mem_cons, not_or] at h
    exact (ih h.2 _).trans (eval_put_other _ _ _ _ h.1)
theorem puts_in (l : List (Nat × Value)) (hn : (l.map (·.1)).Nodup) (d : Nat) (v : Value) (h : (d, v) ∈ l) : ∀ a : Act, d < a.tmps.size → (puts a l).eval (.tmp d) = v := by
  induction l with
  | nil => cases h
  | cons p l ih =>
    intro a hd
    simp only [List.map_cons, List.nodup_cons] at hn
    rcases List.mem_cons.1 h with e | h
    · subst e
      exact (puts_not l d hn.1 _).trans (eval_put_same _ _ _ hd)
    · exact ih hn.2 h _ (by rw [size_put]; exact hd)
theorem act_ext {a b : Act} (h1 : a.tmps.size = b.tmps.size) (h2 : a.defers = b.defers) (h3 : ∀ s, s < a.tmps.size → a.eval (.tmp s) = b.eval (.tmp s)) : a = b := by
  obtain ⟨ta, da⟩ := a
  obtain ⟨tb, db⟩ := b
  simp only at h1 h2 h3
  subst h2
  congr 1
  apply Array.ext h1
  intro i hi1 hi2
  have := h3 i hi1
  simpa [Act.eval, hi1, hi2] using this
theorem all_inv (G : (Nat → Bool) → Act → World → Prop) (hback : backB ops = true)
    (hstep : ∀ (L : Nat → Bool) (i : Nat) (o : Oper) (a : Act) (w : World), ops[i]? = some o → L i = false → Closed ops L → (∀ e ∈ o.after, Region.binds .any e = true → L e.on = true) → G L a w → wpOp P ops Q i (fun a' w' => G (upd L i) a' w') a w)
    (hext : ∀ L L' a w, (∀ j, j < ops.size → L j = L' j) → G L a w → G L' a w)
    (hfin : ∀ a w, G (fun _ => true) a w → Q .normal a w) :
    ∀ (fuel : Nat) (listed : Array Bool) (a : Act) (w : World), listed.size = ops.size → listed.toList.count false ≤ fuel → Closed ops (fun j => listed.getD j false) → G (fun j => listed.getD j false) a w → wpAny P .any ops Q fuel listed a w := by
  have fin : ∀ (listed : Array Bool) (a : Act) (w : World), (∀ j, j < ops.size → listed.getD j false = true) → G (fun j => listed.getD j false) a w → Q .normal a w := fun listed a w hall hG => hfin a w (hext _ _ a w hall hG)
  intro fuel
  induction fuel with
  | zero =>
    intro listed a w hsz hc hcl hG
    have hall : ∀ j, j < ops.size → listed.getD j false = true := by
      intro j hj
      have h0 : ¬ false ∈ listed.toList := fun hm => by
        have := List.count_pos_iff.2 hm
        omega
      have hjl : j < listed.size := by omega
      rw [Array.getD_eq_getD_getElem?, Array.getElem?_eq_getElem hjl]
      cases hb : listed[j] with
      | true => rfl
      | false => exact absurd (by rw [← hb]; exact Array.mem_toList_iff.2 (Array.getElem_mem hjl)) h0
    refine ⟨?_, fin listed a w hall hG⟩
    apply List.eq_nil_iff_forall_not_mem.2
    intro i hi
    obtain ⟨h1, o, ho, _⟩ := mem_ready.1 hi
    have hi' : i < ops.size := (Array.getElem?_eq_some_iff.1 ho).1
    have h2 := hall i hi'
    rw [Array.getD_eq_getD_getElem?, Array.getElem?_eq_getElem (by omega)] at h1 h2
    simp only [Option.getD_some] at h1 h2
    rw [h2] at h1
    cases h1
  | succ fuel ih =>
    intro listed a w hsz hc hcl hG
    refine ⟨fun hr => fin listed a w (all_listed hback hsz hr) hG, fun i hi => ?_⟩
    obtain ⟨h1, o, ho, hdep⟩ := mem_ready.1 hi
    have hi' : i < ops.size := (Array.getElem?_eq_some_iff.1 ho).1
    have h1' : listed.getD i false = false := by
      rw [Array.getD_eq_getD_getElem?, Array.getElem?_eq_getElem (by omega)] at h1 ⊢
      simpa using h1
    have hset : ∀ j, (listed.setIfInBounds i true).getD j false = upd (fun j => listed.getD j false) i j := by
      intro j
      unfold upd
      rw [Array.getD_eq_getD_getElem?, Array.getElem?_setIfInBounds]
      by_cases hij : i = j
      · subst hij
        simp [show i < listed.size by omega]
      · rw [if_neg hij]
        simp [show ¬ j = i from fun e => hij e.symm]
    refine wpOp_mono ?_ (hstep _ i o a w ho h1' hcl hdep hG)
    intro a' w' hG'
    refine ih _ _ _ (by simpa using hsz) ?_ ?_ (hext _ _ a' w' (fun j _ => (hset j).symm) hG')
    · rw [Array.toList_setIfInBounds]
      have hil : i < listed.toList.length := by simpa using (by omega : i < listed.size)
      have hb : listed.toList[i] = false := by
        rw [Array.getD_eq_getD_getElem?, Array.getElem?_eq_getElem (by omega)] at h1
        simpa using h1
      have := List.count_set (a := true) (b := false) hil
      rw [this, hb]
      have hpos : 0 < listed.toList.count false := List.count_pos_iff.2 (by rw [← hb]; exact List.getElem_mem hil)
      show listed.toList.count false - 1 + 0 ≤ fuel
      omega
    · intro j o' ho' hj e he hb
      simp only [hset] at hj ⊢
      unfold upd at hj ⊢
      simp only [Bool.or_eq_true, decide_eq_true_eq] at hj ⊢
      rcases hj with rfl | hj
      · rw [ho] at ho'
        cases ho'
        exact .inr (hdep e he hb)
      · exact .inr (hcl j o' ho' hj e he hb)
/-- the pairs of slots and values -/
def prs (l : List (Option Nat × Value)) : List (Nat × Value) := l.filterMap fun p => p.1.map (·, p.2)
def dstsOfB (ops : Array Oper) (l : List (Option Nat × Value)) : Bool := decide ((List.range ops.size).map (fun i => (ops[i]?).bind (·.dst)) = l.map (·.1))
def slotsB (N : Nat) (ds : List (Option Nat)) : Bool := decide ((ds.filterMap id).Nodup) && (ds.filterMap id).all (fun d => decide (d < N)) && (List.range ds.length).all fun i => (List.range ds.length).all fun j => decide (i = j) || decide (ds.getD i none ≠ ds.getD j none) || decide (ds.getD i none = none)
theorem prs_fst (l : List (Option Nat × Value)) : (prs l).map (·.1) = (l.map (·.1)).filterMap id := by
  induction l with
  | nil => rfl
  | cons p l ih =>
    obtain ⟨d, v⟩ := p
    cases d with
    | none => simpa [prs] using ih
    | some d => simp only [prs, List.filterMap_cons, Option.map_some, List.map_cons, id] at ih ⊢; rw [ih]
theorem prs_mem (l : List (Option Nat × Value)) (d : Nat) (v : Value) (h : (d, v) ∈ prs l) : ∃ j : Nat, l[j]? = some (some d, v) := by
  obtain ⟨p, hp, e⟩ := List.mem_filterMap.1 h
  obtain ⟨o, u⟩ := p
  cases o with
  | none => cases e
  | some d' =>
    simp at e
    obtain ⟨rfl, rfl⟩ := e
    obtain ⟨j, hj⟩ := List.mem_iff_getElem?.1 hp
    exact ⟨j, hj⟩
theorem rep_false (n j : Nat) : (fun j => (Array.replicate n false).getD j false) j = false := by
  show (Array.replicate n false).getD j false = false
  rw [Array.getD_eq_getD_getElem?, Array.getElem?_replicate]
  split <;> rfl
/-- what is known of the frame -/
def Fm (a0 : Act) (l : List (Option Nat × Value)) (L : Nat → Bool) (a : Act) : Prop :=
  a.tmps.size = a0.tmps.size ∧ a.defers = a0.defers ∧ (∀ s : Nat, (l.map (·.1)).contains (some s) = false → a.eval (.tmp s) = a0.eval (.tmp s)) ∧ ∀ (j d : Nat) (v : Value), l[j]? = some (some d, v) → L j = true → a.eval (.tmp d) = v
/-- THE LAW -/
theorem wp_region_det {rid : Nat} {a0 : Act} {w : World} (hm : P.follows .mixedOrders = true) (N : Nat) (l : List (Option Nat × Value)) (hN : a0.tmps.size = N) (hback : backB ops = true) (hd : (List.range ops.size).map (fun i => (ops[i]?).bind (·.dst)) = l.map (·.1)) (hs : slotsB N (l.map (·.1)) = true)
    (Wd : (Nat → Bool) → World → Prop) (hext : ∀ L L' w, (∀ j, j < ops.size → L j = L' j) → Wd L w → Wd L' w)
    (hstep : ∀ (L : Nat → Bool) (i : Nat) (o : Oper) (a : Act) (w : World), ops[i]? = some o → L i = false → Closed ops L → (∀ e ∈ o.after, Region.binds .any e = true → L e.on = true) → Fm a0 l L a → Wd L w → wpOp P ops Q i (fun a' w' => a' = a.put o.dst (l.getD i (none, undef)).2 ∧ Wd (upd L i) w') a w)
    (hfin : ∀ w', Wd (fun _ => true) w' → Q .normal (puts a0 (prs l)) w') (h0 : Wd (fun _ => false) w.drew) : (Code.region rid ops true).wp P Q a0 w := by
  simp only [slotsB, Bool.and_eq_true, decide_eq_true_eq, List.all_eq_true, List.mem_range, Bool.or_eq_true] at hs
  obtain ⟨⟨hnd, hlt⟩, hdis⟩ := hs
  have hlen : l.length = ops.size := by
    have := congrArg List.length hd
    simpa using this.symm
  have hdst : ∀ (i : Nat) (o : Oper), ops[i]? = some o → ∃ v, l[i]? = some (o.dst, v) := by
    intro i o ho
    have hi : i < ops.size := (Array.getElem?_eq_some_iff.1 ho).1
    have e := congrArg (fun x => x[i]?) hd
    simp only [List.getElem?_map, List.getElem?_range hi, Option.map_some, ho, Option.bind_some] at e
    cases hl : l[i]? with
    | none => rw [hl] at e; cases e
    | some p =>
      rw [hl] at e
      simp at e
      exact ⟨p.2, by rw [e]⟩
  have hdis' : ∀ (i j d : Nat) (v v' : Value), l[i]? = some (some d, v) → l[j]? = some (some d, v') → i = j := by
    intro i j d v v' h1 h2
    have hi := (List.getElem?_eq_some_iff.1 h1).1
    have hj := (List.getElem?_eq_some_iff.1 h2).1
    have := hdis i (by simpa using hi) j (by simpa using hj)
    simp only [List.getD_eq_getElem?_getD, List.getElem?_map, h1, h2, Option.map_some, Option.getD_some] at this
    rcases this with (h | h) | h
    · exact h
    · exact absurd rfl h
    · cases h
  have hcon : ∀ s : Nat, (l.map (·.1)).contains (some s) = false ↔ s ∉ (prs l).map (·.1) := by
    intro s
    rw [prs_fst]
    constructor
    · intro h hm
      obtain ⟨x, hx, e⟩ := List.mem_filterMap.1 hm
      simp at e
      subst e
      rw [← Bool.not_eq_true, List.contains_iff_mem] at h
      exact h hx
    · intro h
      rw [← Bool.not_eq_true, List.contains_iff_mem]
      exact fun hm => h (List.mem_filterMap.2 ⟨some s, hm, rfl⟩)
  have hin : ∀ (j d : Nat) (v : Value), l[j]? = some (some d, v) → d ∈ (prs l).map (·.1) ∧ d < N := by
    intro j d v h
    have hm : d ∈ (l.map (·.1)).filterMap id := List.mem_filterMap.2 ⟨some d, List.mem_map.2 ⟨(some d, v), List.mem_of_getElem? h, rfl⟩, rfl⟩
    exact ⟨by rw [prs_fst]; exact hm, hlt d hm⟩
  refine wp_region_any hm ?_
  refine all_inv (fun L a w => Fm a0 l L a ∧ Wd L w) hback ?_ ?_ ?_ _ _ _ _ (by simp) ?_ ?_ ?_
  · intro L i o a w ho hLi hcl hdep ⟨hF, hW⟩
    refine wpOp_mono ?_ (hstep L i o a w ho hLi hcl hdep hF hW)
    rintro a' w' ⟨rfl, hW'⟩
    refine ⟨?_, hW'⟩
    obtain ⟨f1, f2, f3, f4⟩ := hF
    obtain ⟨v, hv⟩ := hdst i o ho
    have ev : (l.getD i (none, undef)).2 = v := by rw [List.getD_eq_getElem?_getD, hv]; rfl
    rw [ev]
    cases hod : o.dst with
    | none =>
      refine ⟨f1, f2, f3, fun j d u hj hL => f4 j d u hj ?_⟩
      unfold upd at hL
      simp only [Bool.or_eq_true, decide_eq_true_eq] at hL
      rcases hL with rfl | hL
      · rw [hv, hod] at hj
        cases hj
      · exact hL
    | some d =>
      rw [hod] at hv
      obtain ⟨hm1, hm2⟩ := hin i d v hv
      refine ⟨by rw [size_put]; exact f1, f2, fun s hs => ?_, fun j d' u hj hL => ?_⟩
      · rw [eval_put_other _ _ _ _ (fun e => (hcon s).1 hs (by rw [e]; exact hm1))]
        exact f3 s hs
      · unfold upd at hL
        simp only [Bool.or_eq_true, decide_eq_true_eq] at hL
        by_cases hji : j = i
        · subst hji
          rw [hv] at hj
          cases hj
          exact eval_put_same _ _ _ (by rw [f1, hN]; exact hm2)
        · rw [eval_put_other _ _ _ _ (fun e => hji (hdis' j i d' u v hj (by rw [e]; exact hv)))]
          exact f4 j d' u hj (hL.resolve_left hji)
  · intro L L' a w hL ⟨⟨f1, f2, f3, f4⟩, hW⟩
    refine ⟨⟨f1, f2, f3, fun j d u hj hL' => f4 j d u hj ?_⟩, hext L L' w hL hW⟩
    rw [hL j (by rw [← hlen]; exact (List.getElem?_eq_some_iff.1 hj).1)]
    exact hL'
  · intro a w ⟨⟨f1, f2, f3, f4⟩, hW⟩
    have e : a = puts a0 (prs l) := by
      refine act_ext (by rw [puts_size]; exact f1) (by rw [puts_defers]; exact f2) (fun s hs => ?_)
      by_cases hm : s ∈ (prs l).map (·.1)
      · obtain ⟨⟨d, v⟩, hp, rfl⟩ := List.mem_map.1 hm
        obtain ⟨j, hj⟩ := prs_mem l d v hp
        rw [f4 j d v hj rfl, puts_in (prs l) (by rw [prs_fst]; exact hnd) d v hp a0 (by rw [hN]; exact (hin j d v hj).2)]
      · rw [f3 s ((hcon s).2 hm), puts_not _ _ hm]
    rw [e]
    exact hfin w hW
  · rw [Array.toList_replicate]
    exact Nat.le_trans (List.count_le_length) (by simp)
  · intro j o ho hj
    rw [rep_false] at hj
    cases hj
  · refine ⟨⟨rfl, rfl, fun _ _ => rfl, fun j d u hj hL => ?_⟩, hext _ _ _ (fun j hj => (rep_false _ j).symm) h0⟩
    rw [rep_false] at hL
    cases hL
/-- THE LAW, with whatever is to be kept -/
theorem wp_region_all {rid : Nat} {a0 : Act} {w : World} (hm : P.follows .mixedOrders = true) (G : (Nat → Bool) → Act → World → Prop) (hback : backB ops = true)
    (hstep : ∀ (L : Nat → Bool) (i : Nat) (o : Oper) (a : Act) (w : World), ops[i]? = some o → L i = false → Closed ops L → (∀ e ∈ o.after, Region.binds .any e = true → L e.on = true) → G L a w → wpOp P ops Q i (fun a' w' => G (upd L i) a' w') a w)
    (hext : ∀ L L' a w, (∀ j, j < ops.size → L j = L' j) → G L a w → G L' a w)
    (hfin : ∀ a w, G (fun _ => true) a w → Q .normal a w) (h0 : G (fun _ => false) a0 w.drew) : (Code.region rid ops true).wp P Q a0 w := by
  refine wp_region_any hm ?_
  refine all_inv G hback hstep hext hfin _ _ _ _ (by simp) ?_ ?_ ?_
  · rw [Array.toList_replicate]
    exact Nat.le_trans (List.count_le_length) (by simp)
  · intro j o ho hj
    rw [rep_false] at hj
    cases hj
  · exact hext _ _ _ _ (fun j hj => (rep_false _ j).symm) h0
/-- one operation -/
theorem det_value {i : Nat} {o : Oper} {a : Act} {w w' : World} {v u : Value} {R : World → Prop} (ho : ops[i]? = some o) (hw : Region.wanted o (yielded ops a.tmps) = true)
    (hr : (execOp a.eval o).run P w = .ok (.value v) w') (hv : v = u) (hR : R w') : wpOp P ops Q i (fun a' w'' => a' = a.put o.dst u ∧ R w'') a w :=
  wpOp_of ho hw (wp_value hr ⟨by rw [hv], hR⟩)
theorem det_skip {i : Nat} {o : Oper} {a : Act} {w w' : World} {u : Value} {R : World → Prop} (ho : ops[i]? = some o) (hw : Region.wanted o (yielded ops a.tmps) = true)
    (hr : (execOp a.eval o).run P w = .ok .skip w') (hd : o.dst = none) (hR : R w') : wpOp P ops Q i (fun a' w'' => a' = a.put o.dst u ∧ R w'') a w := by
  refine wpOp_of ho hw ?_
  unfold Oper.wp
  rw [hr]
  refine ⟨?_, hR⟩
  rw [hd]
  rfl
theorem det_call {i : Nat} {o : Oper} {a : Act} {w : World} {u : Value} {f : FuncId} {args : Array Value} {R : World → Prop} (ho : ops[i]? = some o) (hw : Region.wanted o (yielded ops a.tmps) = true)
    (hr : (execOp a.eval o).run P w = .ok (.enter f args) w) (hc : Calls P f args w fun e w' => e = .returned u ∧ R w') : wpOp P ops Q i (fun a' w'' => a' = a.put o.dst u ∧ R w'') a w :=
  wpOp_of ho hw (wp_enter hr (Calls.mono hc (by rintro e w' ⟨rfl, hR⟩; exact ⟨u, rfl, rfl, hR⟩)))
end
end Go.Proofs.YtdifceikfnnfeaaDoor.Ord
namespace Go.Proofs.YtdifceikfnnfeaaDoor.Ord
open Go.ChangeShapes Go.WideShapes Go.ChangeAt Go.RowKit
set_option linter.unusedVariables false

section
variable {P : Program} {ops : Array Oper} {Q : Exit → Act → World → Prop}
/-- edges that bind lead back, by a rank -/
def backC (ops : Array Oper) (rank : List Nat) : Bool := (List.range ops.size).all fun i => match ops[i]? with
  | some o => o.after.all fun e => !(Region.binds .any e) || decide (rank.getD e.on 0 < rank.getD i 0 ∧ e.on < ops.size)
  | none => true
theorem all_listedC {rank : List Nat} (hback : backC ops rank = true) {listed : Array Bool} (hsz : listed.size = ops.size) (hr : Region.ready .any ops listed = []) : ∀ j, j < ops.size → listed.getD j false = true := by
  have key : ∀ n j, rank.getD j 0 = n → j < ops.size → listed.getD j false = true := by
    intro n
    induction n using Nat.strongRecOn with
    | _ n ih =>
      intro j hn hj
      obtain ⟨o, ho⟩ : ∃ o, ops[j]? = some o := ⟨_, Array.getElem?_eq_getElem hj⟩
      have hnr : ¬ j ∈ Region.ready .any ops listed := by rw [hr]; exact List.not_mem_nil
      rw [mem_ready] at hnr
      have hg : listed.getD j false = listed.getD j true := by
        rw [Array.getD_eq_getD_getElem?, Array.getD_eq_getD_getElem?, Array.getElem?_eq_getElem (by omega)]
        rfl
      rw [hg]
      cases hb : listed.getD j true with
      | true => rfl
      | false =>
        exfalso
        refine hnr ⟨hb, o, ho, fun e he hbi => ?_⟩
        have h1 := List.all_eq_true.1 hback j (List.mem_range.2 hj)
        rw [ho] at h1
        have h2 := Array.all_eq_true_iff_forall_mem.1 h1 e he
        simp only [hbi, Bool.not_true, Bool.false_or, decide_eq_true_eq] at h2
        exact ih _ (by rw [← hn]; exact h2.1) e.on rfl h2.2
  exact fun j hj => key _ j rfl hj
theorem all_inv2 (G : (Nat → Bool) → Act → World → Prop) (hrd : ∀ listed : Array Bool, listed.size = ops.size → Region.ready .any ops listed = [] → ∀ j, j < ops.size → listed.getD j false = true)
    (hstep : ∀ (L : Nat → Bool) (i : Nat) (o : Oper) (a : Act) (w : World), ops[i]? = some o → L i = false → Closed ops L → (∀ e ∈ o.after, Region.binds .any e = true → L e.on = true) → G L a w → wpOp P ops Q i (fun a' w' => G (upd L i) a' w') a w)
    (hext : ∀ L L' a w, (∀ j, j < ops.size → L j = L' j) → G L a w → G L' a w)
    (hfin : ∀ a w, G (fun _ => true) a w → Q .normal a w) :
    ∀ (fuel : Nat) (listed : Array Bool) (a : Act) (w : World), listed.size = ops.size → listed.toList.count false ≤ fuel → Closed ops (fun j => listed.getD j false) → G (fun j => listed.getD j false) a w → wpAny P .any ops Q fuel listed a w := by
  have fin : ∀ (listed : Array Bool) (a : Act) (w : World), (∀ j, j < ops.size → listed.getD j false = true) → G (fun j => listed.getD j false) a w → Q .normal a w := fun listed a w hall hG => hfin a w (hext _ _ a w hall hG)
  intro fuel
  induction fuel with
  | zero =>
    intro listed a w hsz hc hcl hG
    have hall : ∀ j, j < ops.size → listed.getD j false = true := by
      intro j hj
      have h0 : ¬ false ∈ listed.toList := fun hm => by
        have := List.count_pos_iff.2 hm
        omega
      have hjl : j < listed.size := by omega
      rw [Array.getD_eq_getD_getElem?, Array.getElem?_eq_getElem hjl]
      cases hb : listed[j] with
      | true => rfl
      | false => exact absurd (by rw [← hb]; exact Array.mem_toList_iff.2 (Array.getElem_mem hjl)) h0
    refine ⟨?_, fin listed a w hall hG⟩
    apply List.eq_nil_iff_forall_not_mem.2
    intro i hi
    obtain ⟨h1, o, ho, _⟩ := mem_ready.1 hi
    have hi' : i < ops.size := (Array.getElem?_eq_some_iff.1 ho).1
    have h2 := hall i hi'
    rw [Array.getD_eq_getD_getElem?, Array.getElem?_eq_getElem (by omega)] at h1 h2
    simp only [Option.getD_some] at h1 h2
    rw [h2] at h1
    cases h1
  | succ fuel ih =>
    intro listed a w hsz hc hcl hG
    refine ⟨fun hr => fin listed a w (hrd listed hsz hr) hG, fun i hi => ?_⟩
    obtain ⟨h1, o, ho, hdep⟩ := mem_ready.1 hi
    have hi' : i < ops.size := (Array.getElem?_eq_some_iff.1 ho).1
    have h1' : listed.getD i false = false := by
      rw [Array.getD_eq_getD_getElem?, Array.getElem?_eq_getElem (by omega)] at h1 ⊢
      simpa using h1
    have hset : ∀ j, (listed.setIfInBounds i true).getD j false = upd (fun j => listed.getD j false) i j := by
      intro j
      unfold upd
      rw [Array.getD_eq_getD_getElem?, Array.getElem?_setIfInBounds]
      by_cases hij : i = j
      · subst hij
        simp [show i < listed.size by omega]
      · rw [if_neg hij]
        simp [show ¬ j = i from fun e => hij e.symm]
    refine wpOp_mono ?_ (hstep _ i o a w ho h1' hcl hdep hG)
    intro a' w' hG'
    refine ih _ _ _ (by simpa using hsz) ?_ ?_ (hext _ _ a' w' (fun j _ => (hset j).symm) hG')
    · rw [Array.toList_setIfInBounds]
      have hil : i < listed.toList.length := by simpa using (by omega : i < listed.size)
      have hb : listed.toList[i] = false := by
        rw [Array.getD_eq_getD_getElem?, Array.getElem?_eq_getElem (by omega)] at h1
        simpa using h1
      have := List.count_set (a := true) (b := false) hil
      rw [this, hb]
      have hpos : 0 < listed.toList.count false := List.count_pos_iff.2 (by rw [← hb]; exact List.getElem_mem hil)
      show listed.toList.count false - 1 + 0 ≤ fuel
      omega
    · intro j o' ho' hj e he hb
      simp only [hset] at hj ⊢
      unfold upd at hj ⊢
      simp only [Bool.or_eq_true, decide_eq_true_eq] at hj ⊢
      rcases hj with rfl | hj
      · rw [ho] at ho'
        cases ho'
        exact .inr (hdep e he hb)
      · exact .inr (hcl j o' ho' hj e he hb)
/-- THE LAW, with whatever is to be kept -/
theorem wp_region_allC {rid : Nat} {a0 : Act} {w : World} (hm : P.follows .mixedOrders = true) (rank : List Nat) (G : (Nat → Bool) → Act → World → Prop) (hback : backC ops rank = true)
    (hstep : ∀ (L : Nat → Bool) (i : Nat) (o : Oper) (a : Act) (w : World), ops[i]? = some o → L i = false → Closed ops L → (∀ e ∈ o.after, Region.binds .any e = true → L e.on = true) → G L a w → wpOp P ops Q i (fun a' w' => G (upd L i) a' w') a w)
    (hext : ∀ L L' a w, (∀ j, j < ops.size → L j = L' j) → G L a w → G L' a w)
    (hfin : ∀ a w, G (fun _ => true) a w → Q .normal a w) (h0 : G (fun _ => false) a0 w.drew) : (Code.region rid ops true).wp P Q a0 w := by
  refine wp_region_any hm ?_
  refine all_inv2 G (fun listed hsz hr => all_listedC hback hsz hr) hstep hext hfin _ _ _ _ (by simp) ?_ ?_ ?_
  · rw [Array.toList_replicate]
    exact Nat.le_trans (List.count_le_length) (by simp)
  · intro j o ho hj
    rw [rep_false] at hj
    cases hj
  · exact hext _ _ _ _ (fun j hj => (rep_false _ j).symm) h0
end
end Go.Proofs.YtdifceikfnnfeaaDoor.Ord
namespace Go.Proofs.YtdifceikfnnfeaaDoor.Ord
open Go.ChangeShapes Go.WideShapes Go.ChangeAt Go.RowKit
set_option linter.unusedVariables false

section
variable {P : Program} {ops : Array Oper} {Q : Exit → Act → World → Prop}
/-- what is known of the frame -/
def Fx (a0 : Act) (l : List (Option Nat × Value)) (L : Nat → Bool) (a : Act) : Prop :=
  a.tmps.size = a0.tmps.size ∧ a.defers = a0.defers ∧ (∀ s : Nat, (∀ (j : Nat) (v : Value), l[j]? = some (some s, v) → L j = false) → a.eval (.tmp s) = a0.eval (.tmp s)) ∧ ∀ (j d : Nat) (v : Value), l[j]? = some (some d, v) → L j = true → a.eval (.tmp d) = v
/-- a slot that no operation fills -/
theorem Fx.old {a0 a : Act} {l : List (Option Nat × Value)} {L : Nat → Bool} (h : Fx a0 l L a) (s : Nat) (hs : (l.map (·.1)).contains (some s) = false) : a.eval (.tmp s) = a0.eval (.tmp s) := by
  refine h.2.2.1 s fun j v hj => ?_
  rw [← Bool.not_eq_true, List.contains_iff_mem] at hs
  exact absurd (List.mem_map.2 ⟨_, List.mem_of_getElem? hj, rfl⟩) hs
/-- a slot that one operation fills that is not done -/
theorem Fx.yet {a0 a : Act} {l : List (Option Nat × Value)} {L : Nat → Bool} (h : Fx a0 l L a) (s i : Nat) (hs : ((List.range l.length).all fun j => decide (j = i) || decide ((l.map (·.1)).getD j none ≠ some s)) = true) (hi : L i = false) : a.eval (.tmp s) = a0.eval (.tmp s) := by
  refine h.2.2.1 s fun j v hj => ?_
  have hl := (List.getElem?_eq_some_iff.1 hj).1
  have := List.all_eq_true.1 hs j (List.mem_range.2 hl)
  simp only [List.getD_eq_getElem?_getD, List.getElem?_map, hj, Option.map_some, Option.getD_some, Bool.or_eq_true, decide_eq_true_eq] at this
  rcases this with rfl | h'
  · exact hi
  · exact absurd rfl h'
/-- THE LAW -/
theorem wp_region_ex0 {X : Type} {rid : Nat} {a0 : Act} {w : World} (hm : P.follows .mixedOrders = true) (N : Nat) (l : X → List (Option Nat × Value)) (ds : List (Option Nat)) (hN : a0.tmps.size = N) (hrd : ∀ listed : Array Bool, listed.size = ops.size → Region.ready .any ops listed = [] → ∀ j, j < ops.size → listed.getD j false = true) (hd : (List.range ops.size).map (fun i => (ops[i]?).bind (·.dst)) = ds) (hl : ∀ x, (l x).map (·.1) = ds) (hs : slotsB N ds = true)
    (Wd : X → (Nat → Bool) → World → Prop) (hext : ∀ x L L' w, (∀ j, j < ops.size → L j = L' j) → Wd x L w → Wd x L' w)
    (hstep : ∀ (x : X) (L : Nat → Bool) (i : Nat) (o : Oper) (a : Act) (w : World), ops[i]? = some o → L i = false → Closed ops L → (∀ e ∈ o.after, Region.binds .any e = true → L e.on = true) → Fx a0 (l x) L a → Wd x L w →
      wpOp P ops Q i (fun a' w' => ∃ x', a' = a.put o.dst ((l x').getD i (none, undef)).2 ∧ (∀ j, L j = true → (l x')[j]? = (l x)[j]?) ∧ Wd x' (upd L i) w') a w)
    (hfin : ∀ x w', Wd x (fun _ => true) w' → Q .normal (puts a0 (prs (l x))) w') (x0 : X) (h0 : Wd x0 (fun _ => false) w.drew) : (Code.region rid ops true).wp P Q a0 w := by
  simp only [slotsB, Bool.and_eq_true, decide_eq_true_eq, List.all_eq_true, List.mem_range, Bool.or_eq_true] at hs
  obtain ⟨⟨hnd, hlt⟩, hdis⟩ := hs
  have hlen : ∀ x, (l x).length = ops.size := by
    intro x
    have h1 := congrArg List.length hd
    have h2 := congrArg List.length (hl x)
    simp only [List.length_map, List.length_range] at h1 h2
    omega
  have hdst : ∀ (x : X) (i : Nat) (o : Oper), ops[i]? = some o → ∃ v, (l x)[i]? = some (o.dst, v) := by
    intro x i o ho
    have hi : i < ops.size := (Array.getElem?_eq_some_iff.1 ho).1
    have e := congrArg (fun y => y[i]?) (hd.trans (hl x).symm)
    simp only [List.getElem?_map, List.getElem?_range hi, Option.map_some, ho, Option.bind_some] at e
    cases hx : (l x)[i]? with
    | none => rw [hx] at e; cases e
    | some p =>
      rw [hx] at e
      simp at e
      exact ⟨p.2, by rw [e]⟩
  have hdis' : ∀ (x : X) (i j d : Nat) (v v' : Value), (l x)[i]? = some (some d, v) → (l x)[j]? = some (some d, v') → i = j := by
    intro x i j d v v' h1 h2
    have hi := (List.getElem?_eq_some_iff.1 h1).1
    have hj := (List.getElem?_eq_some_iff.1 h2).1
    have hlx : ds.length = (l x).length := by rw [← hl x, List.length_map]
    have := hdis i (by omega) j (by omega)
    rw [← hl x] at this
    simp only [List.getD_eq_getElem?_getD, List.getElem?_map, h1, h2, Option.map_some, Option.getD_some] at this
    rcases this with (h | h) | h
    · exact h
    · exact absurd rfl h
    · cases h
  have hin : ∀ (x : X) (j d : Nat) (v : Value), (l x)[j]? = some (some d, v) → d ∈ (prs (l x)).map (·.1) ∧ d < N := by
    intro x j d v h
    have hm : d ∈ ds.filterMap id := by
      rw [← hl x]
      exact List.mem_filterMap.2 ⟨some d, List.mem_map.2 ⟨(some d, v), List.mem_of_getElem? h, rfl⟩, rfl⟩
    exact ⟨by rw [prs_fst, hl x]; exact hm, hlt d hm⟩
  refine wp_region_any hm ?_
  refine all_inv2 (fun L a w => ∃ x, Fx a0 (l x) L a ∧ Wd x L w) hrd ?_ ?_ ?_ _ _ _ _ (by simp) ?_ ?_ ?_
  · rintro L i o a w ho hLi hcl hdep ⟨x, hF, hW⟩
    refine wpOp_mono ?_ (hstep x L i o a w ho hLi hcl hdep hF hW)
    rintro a' w' ⟨x', rfl, hsame, hW'⟩
    refine ⟨x', ?_, hW'⟩
    obtain ⟨f1, f2, f3, f4⟩ := hF
    obtain ⟨v, hv⟩ := hdst x' i o ho
    have ev : ((l x').getD i (none, undef)).2 = v := by rw [List.getD_eq_getElem?_getD, hv]; rfl
    rw [ev]
    have f3' : ∀ s : Nat, (∀ (j : Nat) (v : Value), (l x')[j]? = some (some s, v) → upd L i j = false) → a.eval (.tmp s) = a0.eval (.tmp s) := by
      intro s hs
      refine f3 s fun j u hj => ?_
      cases hb : L j with
      | false => rfl
      | true =>
        have := hs j u (by rw [hsame j hb]; exact hj)
        unfold upd at this
        rw [hb] at this
        simp at this
    have f4' : ∀ (j d : Nat) (u : Value), (l x')[j]? = some (some d, u) → L j = true → a.eval (.tmp d) = u := fun j d u hj hL => f4 j d u (by rw [← hsame j hL]; exact hj) hL
    cases hod : o.dst with
    | none =>
      refine ⟨f1, f2, f3', fun j d u hj hL => f4' j d u hj ?_⟩
      unfold upd at hL
      simp only [Bool.or_eq_true, decide_eq_true_eq] at hL
      rcases hL with rfl | hL
      · rw [hv, hod] at hj
        cases hj
      · exact hL
    | some d =>
      rw [hod] at hv
      obtain ⟨hm1, hm2⟩ := hin x' i d v hv
      refine ⟨by rw [size_put]; exact f1, f2, fun s hs => ?_, fun j d' u hj hL => ?_⟩
      · have hne : s ≠ d := by
          rintro rfl
          have := hs i v hv
          unfold upd at this
          simp at this
        rw [eval_put_other _ _ _ _ hne]
        exact f3' s hs
      · unfold upd at hL
        simp only [Bool.or_eq_true, decide_eq_true_eq] at hL
        by_cases hji : j = i
        · subst hji
          rw [hv] at hj
          cases hj
          exact eval_put_same _ _ _ (by rw [f1, hN]; exact hm2)
        · rw [eval_put_other _ _ _ _ (fun e => hji (hdis' x' j i d' u v hj (by rw [e]; exact hv)))]
          exact f4' j d' u hj (hL.resolve_left hji)
  · rintro L L' a w hL ⟨x, ⟨f1, f2, f3, f4⟩, hW⟩
    refine ⟨x, ⟨f1, f2, fun s hs => f3 s fun j v hj => ?_, fun j d u hj hL' => f4 j d u hj ?_⟩, hext x L L' w hL hW⟩
    · rw [hL j (by rw [← hlen x]; exact (List.getElem?_eq_some_iff.1 hj).1)]
      exact hs j v hj
    · rw [hL j (by rw [← hlen x]; exact (List.getElem?_eq_some_iff.1 hj).1)]
      exact hL'
  · rintro a w ⟨x, ⟨f1, f2, f3, f4⟩, hW⟩
    have e : a = puts a0 (prs (l x)) := by
      refine act_ext (by rw [puts_size]; exact f1) (by rw [puts_defers]; exact f2) (fun s hs => ?_)
      by_cases hm : s ∈ (prs (l x)).map (·.1)
      · obtain ⟨⟨d, v⟩, hp, rfl⟩ := List.mem_map.1 hm
        obtain ⟨j, hj⟩ := prs_mem (l x) d v hp
        rw [f4 j d v hj rfl, puts_in (prs (l x)) (by rw [prs_fst, hl x]; exact hnd) d v hp a0 (by rw [hN]; exact (hin x j d v hj).2)]
      · rw [f3 s (fun j v hj => absurd (hin x j s v hj).1 hm), puts_not _ _ hm]
    rw [e]
    exact hfin x w hW
  · rw [Array.toList_replicate]
    exact Nat.le_trans (List.count_le_length) (by simp)
  · intro j o ho hj
    rw [rep_false] at hj
    cases hj
  · refine ⟨x0, ⟨rfl, rfl, fun _ _ => rfl, fun j d u hj hL => ?_⟩, hext x0 _ _ _ (fun j hj => (rep_false _ j).symm) h0⟩
    rw [rep_false] at hL
    cases hL
theorem wp_region_ex {X : Type} {rid : Nat} {a0 : Act} {w : World} (hm : P.follows .mixedOrders = true) (N : Nat) (l : X → List (Option Nat × Value)) (ds : List (Option Nat)) (hN : a0.tmps.size = N) (hback : backB ops = true) (hd : (List.range ops.size).map (fun i => (ops[i]?).bind (·.dst)) = ds) (hl : ∀ x, (l x).map (·.1) = ds) (hs : slotsB N ds = true)
    (Wd : X → (Nat → Bool) → World → Prop) (hext : ∀ x L L' w, (∀ j, j < ops.size → L j = L' j) → Wd x L w → Wd x L' w)
    (hstep : ∀ (x : X) (L : Nat → Bool) (i : Nat) (o : Oper) (a : Act) (w : World), ops[i]? = some o → L i = false → Closed ops L → (∀ e ∈ o.after, Region.binds .any e = true → L e.on = true) → Fx a0 (l x) L a → Wd x L w →
      wpOp P ops Q i (fun a' w' => ∃ x', a' = a.put o.dst ((l x').getD i (none, undef)).2 ∧ (∀ j, L j = true → (l x')[j]? = (l x)[j]?) ∧ Wd x' (upd L i) w') a w)
    (hfin : ∀ x w', Wd x (fun _ => true) w' → Q .normal (puts a0 (prs (l x))) w') (x0 : X) (h0 : Wd x0 (fun _ => false) w.drew) : (Code.region rid ops true).wp P Q a0 w :=
  wp_region_ex0 hm N l ds hN (fun listed hsz hr => all_listed hback hsz hr) hd hl hs Wd hext hstep hfin x0 h0
/-- all values told ahead; edges that do not bind may lead forward -/
theorem wp_region_detC {rid : Nat} {a0 : Act} {w : World} (hm : P.follows .mixedOrders = true) (rank : List Nat) (N : Nat) (l : List (Option Nat × Value)) (hN : a0.tmps.size = N) (hback : backC ops rank = true) (hd : (List.range ops.size).map (fun i => (ops[i]?).bind (·.dst)) = l.map (·.1)) (hs : slotsB N (l.map (·.1)) = true)
    (Wd : (Nat → Bool) → World → Prop) (hext : ∀ L L' w, (∀ j, j < ops.size → L j = L' j) → Wd L w → Wd L' w)
    (hstep : ∀ (L : Nat → Bool) (i : Nat) (o : Oper) (a : Act) (w : World), ops[i]? = some o → L i = false → Closed ops L → (∀ e ∈ o.after, Region.binds .any e = true → L e.on = true) → Fx a0 l L a → Wd L w → wpOp P ops Q i (fun a' w' => a' = a.put o.dst (l.getD i (none, undef)).2 ∧ Wd (upd L i) w') a w)
    (hfin : ∀ w', Wd (fun _ => true) w' → Q .normal (puts a0 (prs l)) w') (h0 : Wd (fun _ => false) w.drew) : (Code.region rid ops true).wp P Q a0 w := by
  refine wp_region_ex0 (X := Unit) hm N (fun _ => l) _ hN (fun listed hsz hr => all_listedC hback hsz hr) hd (fun _ => rfl) hs (fun _ L w => Wd L w) (fun _ L L' w h1 h2 => hext L L' w h1 h2) ?_ (fun _ w' h => hfin w' h) () h0
  intro x L i o a w ho hi hcl hdep hF hW
  refine wpOp_mono ?_ (hstep L i o a w ho hi hcl hdep hF hW)
  rintro a' w' ⟨h1, h2⟩
  exact ⟨(), h1, fun _ _ => rfl, h2⟩
/-- two steps, one behind the other -/
def St (c1 c2 : Nat) (A0 : World → Prop) (A1 A2 : Value → World → Prop) (x : Value × Value) (L : Nat → Bool) (w : World) : Prop :=
  (L c1 = false → A0 w) ∧ (L c1 = true → L c2 = false → A1 x.1 w) ∧ (L c2 = true → A2 x.2 w) ∧ (L c2 = true → L c1 = true)
theorem St.ext {c1 c2 n : Nat} {A0 : World → Prop} {A1 A2 : Value → World → Prop} {x : Value × Value} {L L' : Nat → Bool} {w : World} (h1 : c1 < n) (h2 : c2 < n) (hL : ∀ j, j < n → L j = L' j) (h : St c1 c2 A0 A1 A2 x L w) : St c1 c2 A0 A1 A2 x L' w := by
  unfold St at h ⊢
  rw [← hL c1 h1, ← hL c2 h2]
  exact h
theorem St.keep {c1 c2 i : Nat} {A0 : World → Prop} {A1 A2 : Value → World → Prop} {x : Value × Value} {L : Nat → Bool} {w : World} (h1 : decide (c1 = i) = false) (h2 : decide (c2 = i) = false) (h : St c1 c2 A0 A1 A2 x L w) : St c1 c2 A0 A1 A2 x (upd L i) w := by
  have e1 : upd L i c1 = L c1 := by unfold upd; rw [h1]; rfl
  have e2 : upd L i c2 = L c2 := by unfold upd; rw [h2]; rfl
  unfold St at h ⊢
  rw [e1, e2]
  exact h
theorem St.one {c1 c2 : Nat} {A0 : World → Prop} {A1 A2 : Value → World → Prop} {x : Value × Value} {L : Nat → Bool} {w w' : World} {v : Value} (hne : decide (c2 = c1) = false) (hL : L c1 = false) (h : St c1 c2 A0 A1 A2 x L w) (hv : A1 v w') : St c1 c2 A0 A1 A2 (v, x.2) (upd L c1) w' := by
  have h2 : L c2 = false := by
    cases hb : L c2 with
    | false => rfl
    | true => rw [h.2.2.2 hb] at hL; cases hL
  have e1 : upd L c1 c1 = true := by unfold upd; rw [decide_eq_true rfl]; rfl
  have e2 : upd L c1 c2 = false := by unfold upd; rw [hne, h2]; rfl
  unfold St
  rw [e1, e2]
  exact ⟨(fun e => Bool.noConfusion e), (fun _ _ => hv), (fun e => Bool.noConfusion e), (fun _ => rfl)⟩
theorem St.two {c1 c2 : Nat} {A0 : World → Prop} {A1 A2 : Value → World → Prop} {x : Value × Value} {L : Nat → Bool} {w' : World} {v : Value} (hL : L c1 = true) (hv : A2 v w') : St c1 c2 A0 A1 A2 (x.1, v) (upd L c2) w' := by
  have e1 : upd L c2 c1 = true := by unfold upd; rw [hL, Bool.or_true]
  have e2 : upd L c2 c2 = true := by unfold upd; rw [decide_eq_true rfl]; rfl
  unfold St
  rw [e1, e2]
  exact ⟨(fun e => Bool.noConfusion e), (fun _ e => Bool.noConfusion e), (fun _ => hv), (fun _ => rfl)⟩
theorem St.all {c1 c2 : Nat} {A0 : World → Prop} {A1 A2 : Value → World → Prop} {x : Value × Value} {L : Nat → Bool} {w : World} {R : Prop} (h : St c1 c2 A0 A1 A2 x L w) (h0 : A0 w → R) (h1 : ∀ v, A1 v w → R) (h2 : ∀ v, A2 v w → R) : R := by
  cases hb : L c2 with
  | true => exact h2 _ (h.2.2.1 hb)
  | false =>
    cases ha : L c1 with
    | true => exact h1 _ (h.2.1 ha hb)
    | false => exact h0 (h.1 ha)
/-- one operation -/
theorem ex_value {X : Type} {l : X → List (Option Nat × Value)} {L : Nat → Bool} {i : Nat} {o : Oper} {a : Act} {w w' : World} {v : Value} {R : X → World → Prop} (x : X) (ho : ops[i]? = some o) (hw : Region.wanted o (yielded ops a.tmps) = true)
    (hr : (execOp a.eval o).run P w = .ok (.value v) w') (hv : v = ((l x).getD i (none, undef)).2) (hR : R x w') : wpOp P ops Q i (fun a' w'' => ∃ x', a' = a.put o.dst ((l x').getD i (none, undef)).2 ∧ (∀ j, L j = true → (l x')[j]? = (l x)[j]?) ∧ R x' w'') a w :=
  wpOp_of ho hw (wp_value hr ⟨x, by rw [hv], fun _ _ => rfl, hR⟩)
/-- one whose value is a letter -/
theorem ex_letter {X : Type} {l : X → List (Option Nat × Value)} {L : Nat → Bool} {i : Nat} {o : Oper} {a : Act} {w w' : World} {v : Value} {R : X → World → Prop} (x x' : X) (ho : ops[i]? = some o) (hw : Region.wanted o (yielded ops a.tmps) = true)
    (hr : (execOp a.eval o).run P w = .ok (.value v) w') (hv : v = ((l x').getD i (none, undef)).2) (hs : ∀ j, L j = true → (l x')[j]? = (l x)[j]?) (hR : R x' w') : wpOp P ops Q i (fun a' w'' => ∃ x', a' = a.put o.dst ((l x').getD i (none, undef)).2 ∧ (∀ j, L j = true → (l x')[j]? = (l x)[j]?) ∧ R x' w'') a w :=
  wpOp_of ho hw (wp_value hr ⟨x', by rw [hv], hs, hR⟩)
theorem ex_call {X : Type} {l : X → List (Option Nat × Value)} {L : Nat → Bool} {i : Nat} {o : Oper} {a : Act} {w : World} {f : FuncId} {args : Array Value} {R : X → World → Prop} (x : X) (nx : Value → X) (ho : ops[i]? = some o) (hw : Region.wanted o (yielded ops a.tmps) = true)
    (hr : (execOp a.eval o).run P w = .ok (.enter f args) w) (hv : ∀ v, ((l (nx v)).getD i (none, undef)).2 = v) (hs : ∀ v j, L j = true → (l (nx v))[j]? = (l x)[j]?) (hc : Calls P f args w fun e w' => ∃ v, e = .returned v ∧ R (nx v) w') : wpOp P ops Q i (fun a' w'' => ∃ x', a' = a.put o.dst ((l x').getD i (none, undef)).2 ∧ (∀ j, L j = true → (l x')[j]? = (l x)[j]?) ∧ R x' w'') a w :=
  wpOp_of ho hw (wp_enter hr (Calls.mono hc (by rintro e w' ⟨v, rfl, hR⟩; exact ⟨v, rfl, nx v, by rw [hv], hs v, hR⟩)))
end
end Go.Proofs.YtdifceikfnnfeaaDoor.Ord
