/-
  As Orders4, where edges that do not bind may lead forward.
  Conditions: each operation's edges that bind lead to operations ahead of it in the text.
-/
import Derived.Test.YtifdkpifambhaaaOrders4
namespace Go.Proofs.Ytifdkpifambhaaa.Ord
open Go.ChangeShapes Go.WideShapes Go.ChangeAt Go.RowKit
set_option linter.unusedVariables false

section
variable {P : Program} {ops : Array Oper} {Q : Exit → Act → World → Prop}
/-- edges that bind lead back, by a rank -/
def backC (ops : Array Oper) (rank : List Nat) : Bool := (List.range ops.size).all fun i => match ops[i]? with
  | some o => o.after.all fun e => !(Region.binds .any e) || decide (rank.getD e.on 0 < rank.getD i 0 ∧ e.on < ops.size)
  | none => true
theorem all_listedC {rank : List Nat} (hback : backC ops rank = true) {listed : Array Bool} (hsz : listed.size = ops.size) (hr : Region.ready .any ops listed = []) : ∀ j, j < ops.size → listed.getD j false = true := by
  have key : ∀ n j, rank.getD j 0 = n → j < ops.size → listed.getD j false = true := by
    intro n
    induction n using Nat.strongRecOn with
    | _ n ih =>
      intro j hn hj
      obtain ⟨o, ho⟩ : ∃ o, ops[j]? = some o := ⟨_, Array.getElem?_eq_getElem hj⟩
      have hnr : ¬ j ∈ Region.ready .any ops listed := by rw [hr]; exact List.not_mem_nil
      rw [mem_ready] at hnr
      have hg : listed.getD j false = listed.getD j true := by
        rw [Array.getD_eq_getD_getElem?, Array.getD_eq_getD_getElem?, Array.getElem?_eq_getElem (by omega)]
        rfl
      rw [hg]
      cases hb : listed.getD j true with
      | true => rfl
      | false =>
        exfalso
        refine hnr ⟨hb, o, ho, fun e he hbi => ?_⟩
        have h1 := List.all_eq_true.1 hback j (List.mem_range.2 hj)
        rw [ho] at h1
        have h2 := Array.all_eq_true_iff_forall_mem.1 h1 e he
        simp only [hbi, Bool.not_true, Bool.false_or, decide_eq_true_eq] at h2
        exact ih _ (by rw [← hn]; exact h2.1) e.on rfl h2.2
  exact fun j hj => key _ j rfl hj
theorem all_inv2 (G : (Nat → Bool) → Act → World → Prop) (hrd : ∀ listed : Array Bool, listed.size = ops.size → Region.ready .any ops listed = [] → ∀ j, j < ops.size → listed.getD j false = true)
    (hstep : ∀ (L : Nat → Bool) (i : Nat) (o : Oper) (a : Act) (w : World), ops[i]? = some o → L i = false → Closed ops L → (∀ e ∈ o.after, Region.binds .any e = true → L e.on = true) → G L a w → wpOp P ops Q i (fun a' w' => G (upd L i) a' w') a w)
    (hext : ∀ L L' a w, (∀ j, j < ops.size → L j = L' j) → G L a w → G L' a w)
    (hfin : ∀ a w, G (fun _ => true) a w → Q .normal a w) :
    ∀ (fuel : Nat) (listed : Array Bool) (a : Act) (w : World), listed.size = ops.size → listed.toList.count false ≤ fuel → Closed ops (fun j => listed.getD j false) → G (fun j => listed.getD j false) a w → wpAny P .any ops Q fuel listed a w := by
  have fin : ∀ (listed : Array Bool) (a : Act) (w : World), (∀ j, j < ops.size → listed.getD j false = true) → G (fun j => listed.getD j false) a w → Q .normal a w := fun listed a w hall hG => hfin a w (hext _ _ a w hall hG)
  intro fuel
  induction fuel with
  | zero =>
    intro listed a w hsz hc hcl hG
    have hall : ∀ j, j < ops.size → listed.getD j false = true := by
      intro j hj
      have h0 : ¬ false ∈ listed.toList := fun hm => by
        have := List.count_pos_iff.2 hm
        omega
      have hjl : j < listed.size := by omega
      rw [Array.getD_eq_getD_getElem?, Array.getElem?_eq_getElem hjl]
      cases hb : listed[j] with
      | true => rfl
      | false => exact absurd (by rw [← hb]; exact Array.mem_toList_iff.2 (Array.getElem_mem hjl)) h0
    refine ⟨?_, fin listed a w hall hG⟩
    apply List.eq_nil_iff_forall_not_mem.2
    intro i hi
    obtain ⟨h1, o, ho, _⟩ := mem_ready.1 hi
    have hi' : i < ops.size := (Array.getElem?_eq_some_iff.1 ho).1
    have h2 := hall i hi'
    rw [Array.getD_eq_getD_getElem?, Array.getElem?_eq_getElem (by omega)] at h1 h2
    simp only [Option.getD_some] at h1 h2
    rw [h2] at h1
    cases h1
  | succ fuel ih =>
    intro listed a w hsz hc hcl hG
    refine ⟨fun hr => fin listed a w (hrd listed hsz hr) hG, fun i hi => ?_⟩
    obtain ⟨h1, o, ho, hdep⟩ := mem_ready.1 hi
    have hi' : i < ops.size := (Array.getElem?_eq_some_iff.1 ho).1
    have h1' : listed.getD i false = false := by
      rw [Array.getD_eq_getD_getElem?, Array.getElem?_eq_getElem (by omega)] at h1 ⊢
      simpa using h1
    have hset : ∀ j, (listed.setIfInBounds i true).getD j false = upd (fun j => listed.getD j false) i j := by
      intro j
      unfold upd
      rw [Array.getD_eq_getD_getElem?, Array.getElem?_setIfInBounds]
      by_cases hij : i = j
      · subst hij
        simp [show i < listed.size by omega]
      · rw [if_neg hij]
        simp [show ¬ j = i from fun e => hij e.symm]
    refine wpOp_mono ?_ (hstep _ i o a w ho h1' hcl hdep hG)
    intro a' w' hG'
    refine ih _ _ _ (by simpa using hsz) ?_ ?_ (hext _ _ a' w' (fun j _ => (hset j).symm) hG')
    · rw [Array.toList_setIfInBounds]
      have hil : i < listed.toList.length := by simpa using (by omega : i < listed.size)
      have hb : listed.toList[i] = false := by
        rw [Array.getD_eq_getD_getElem?, Array.getElem?_eq_getElem (by omega)] at h1
        simpa using h1
      have := List.count_set (a := true) (b := false) hil
      rw [this, hb]
      have hpos : 0 < listed.toList.count false := List.count_pos_iff.2 (by rw [← hb]; exact List.getElem_mem hil)
      show listed.toList.count false - 1 + 0 ≤ fuel
      omega
    · intro j o' ho' hj e he hb
      simp only [hset] at hj ⊢
      unfold upd at hj ⊢
      simp only [Bool.or_eq_true, decide_eq_true_eq] at hj ⊢
      rcases hj with rfl | hj
      · rw [ho] at ho'
        cases ho'
        exact .inr (hdep e he hb)
      · exact .inr (hcl j o' ho' hj e he hb)
/-- THE LAW, with whatever is to be kept -/
theorem wp_region_allC {rid : Nat} {a0 : Act} {w : World} (hm : P.follows .mixedOrders = true) (rank : List Nat) (G : (Nat → Bool) → Act → World → Prop) (hback : backC ops rank = true)
    (hstep : ∀ (L : Nat → Bool) (i : Nat) (o : Oper) (a : Act) (w : World), ops[i]? = some o → L i = false → Closed ops L → (∀ e ∈ o.after, Region.binds .any e = true → L e.on = true) → G L a w → wpOp P ops Q i (fun a' w' => G (upd L i) a' w') a w)
    (hext : ∀ L L' a w, (∀ j, j < ops.size → L j = L' j) → G L a w → G L' a w)
    (hfin : ∀ a w, G (fun _ => true) a w → Q .normal a w) (h0 : G (fun _ => false) a0 w.drew) : (Code.region rid ops true).wp P Q a0 w := by
  refine wp_region_any hm ?_
  refine all_inv2 G (fun listed hsz hr => all_listedC hback hsz hr) hstep hext hfin _ _ _ _ (by simp) ?_ ?_ ?_
  · rw [Array.toList_replicate]
    exact Nat.le_trans (List.count_le_length) (by simp)
  · intro j o ho hj
    rw [rep_false] at hj
    cases hj
  · exact hext _ _ _ _ (fun j hj => (rep_false _ j).symm) h0
end
end Go.Proofs.Ytifdkpifambhaaa.Ord
