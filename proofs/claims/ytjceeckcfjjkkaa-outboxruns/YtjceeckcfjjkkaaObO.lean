/-
  Regions that draw their order, within a round of a loop that ranges over a function.
  Conditions: as Orders6's; no operation defers.
-/
import Derived.Test.YtjceeckcfjjkkaaOr
import Derived.Test.YtjceeckcfjjkkaaRg
import Derived.RangeFuncNested
import Derived.RangeFuncCalls
import Derived.OwnWalkIn
import Derived.OrdersIn
namespace Go.Proofs.Ytjceeckcfjjkkaa.Ord
open Go.ChangeShapes Go.WideShapes Go.ChangeAt Go.RowKit
set_option linter.unusedVariables false

section
variable {P : Program} {ops : Array Oper} {Q : Exit → Act → World → Prop}
/-- the law, for every order -/
theorem any_ex {X : Type} {a0 : Act} {w : World} (N : Nat) (l : X → List (Option Nat × Value)) (ds : List (Option Nat)) (hN : a0.tmps.size = N) (hrd : ∀ listed : Array Bool, listed.size = ops.size → Region.ready .any ops listed = [] → ∀ j, j < ops.size → listed.getD j false = true) (hd : (List.range ops.size).map (fun i => (ops[i]?).bind (·.dst)) = ds) (hl : ∀ x, (l x).map (·.1) = ds) (hs : slotsB N ds = true)
    (Wd : X → (Nat → Bool) → World → Prop) (hext : ∀ x L L' w, (∀ j, j < ops.size → L j = L' j) → Wd x L w → Wd x L' w)
    (hstep : ∀ (x : X) (L : Nat → Bool) (i : Nat) (o : Oper) (a : Act) (w : World), ops[i]? = some o → L i = false → Closed ops L → (∀ e ∈ o.after, Region.binds .any e = true → L e.on = true) → Fx a0 (l x) L a → Wd x L w →
      wpOp P ops Q i (fun a' w' => ∃ x', a' = a.put o.dst ((l x').getD i (none, undef)).2 ∧ (∀ j, L j = true → (l x')[j]? = (l x)[j]?) ∧ Wd x' (upd L i) w') a w)
    (hfin : ∀ x w', Wd x (fun _ => true) w' → Q .normal (puts a0 (prs (l x))) w') (x0 : X) (h0 : Wd x0 (fun _ => false) w.drew) : wpAny P .any ops Q ops.size (Array.replicate ops.size false) a0 w.drew := by
  simp only [slotsB, Bool.and_eq_true, decide_eq_true_eq, List.all_eq_true, List.mem_range, Bool.or_eq_true] at hs
  obtain ⟨⟨hnd, hlt⟩, hdis⟩ := hs
  have hlen : ∀ x, (l x).length = ops.size := by
    intro x
    have h1 := congrArg List.length hd
    have h2 := congrArg List.length (hl x)
    simp only [List.length_map, List.length_range] at h1 h2
    omega
  have hdst : ∀ (x : X) (i : Nat) (o : Oper), ops[i]? = some o → ∃ v, (l x)[i]? = some (o.dst, v) := by
    intro x i o ho
    have hi : i < ops.size := (Array.getElem?_eq_some_iff.1 ho).1
    have e := congrArg (fun y => y[i]?) (hd.trans (hl x).symm)
    simp only [List.getElem?_map, List.getElem?_range hi, Option.map_some, ho, Option.bind_some] at e
    cases hx : (l x)[i]? with
    | none => rw [hx] at e; cases e
    | some p =>
      rw [hx] at e
      simp at e
      exact ⟨p.2, by rw [e]⟩
  have hdis' : ∀ (x : X) (i j d : Nat) (v v' : Value), (l x)[i]? = some (some d, v) → (l x)[j]? = some (some d, v') → i = j := by
    intro x i j d v v' h1 h2
    have hi := (List.getElem?_eq_some_iff.1 h1).1
    have hj := (List.getElem?_eq_some_iff.1 h2).1
    have hlx : ds.length = (l x).length := by rw [← hl x, List.length_map]
    have := hdis i (by omega) j (by omega)
    rw [← hl x] at this
    simp only [List.getD_eq_getElem?_getD, List.getElem?_map, h1, h2, Option.map_some, Option.getD_some] at this
    rcases this with (h | h) | h
    · exact h
    · exact absurd rfl h
    · cases h
  have hin : ∀ (x : X) (j d : Nat) (v : Value), (l x)[j]? = some (some d, v) → d ∈ (prs (l x)).map (·.1) ∧ d < N := by
    intro x j d v h
    have hm : d ∈ ds.filterMap id := by
      rw [← hl x]
      exact List.mem_filterMap.2 ⟨some d, List.mem_map.2 ⟨(some d, v), List.mem_of_getElem? h, rfl⟩, rfl⟩
    exact ⟨by rw [prs_fst, hl x]; exact hm, hlt d hm⟩
  refine all_inv2 (fun L a w => ∃ x, Fx a0 (l x) L a ∧ Wd x L w) hrd ?_ ?_ ?_ _ _ _ _ (by simp) ?_ ?_ ?_
  · rintro L i o a w ho hLi hcl hdep ⟨x, hF, hW⟩
    refine wpOp_mono ?_ (hstep x L i o a w ho hLi hcl hdep hF hW)
    rintro a' w' ⟨x', rfl, hsame, hW'⟩
    refine ⟨x', ?_, hW'⟩
    obtain ⟨f1, f2, f3, f4⟩ := hF
    obtain ⟨v, hv⟩ := hdst x' i o ho
    have ev : ((l x').getD i (none, undef)).2 = v := by rw [List.getD_eq_getElem?_getD, hv]; rfl
    rw [ev]
    have f3' : ∀ s : Nat, (∀ (j : Nat) (v : Value), (l x')[j]? = some (some s, v) → upd L i j = false) → a.eval (.tmp s) = a0.eval (.tmp s) := by
      intro s hs
      refine f3 s fun j u hj => ?_
      cases hb : L j with
      | false => rfl
      | true =>
        have := hs j u (by rw [hsame j hb]; exact hj)
        unfold upd at this
        rw [hb] at this
        simp at this
    have f4' : ∀ (j d : Nat) (u : Value), (l x')[j]? = some (some d, u) → L j = true → a.eval (.tmp d) = u := fun j d u hj hL => f4 j d u (by rw [← hsame j hL]; exact hj) hL
    cases hod : o.dst with
    | none =>
      refine ⟨f1, f2, f3', fun j d u hj hL => f4' j d u hj ?_⟩
      unfold upd at hL
      simp only [Bool.or_eq_true, decide_eq_true_eq] at hL
      rcases hL with rfl | hL
      · rw [hv, hod] at hj
        cases hj
      · exact hL
    | some d =>
      rw [hod] at hv
      obtain ⟨hm1, hm2⟩ := hin x' i d v hv
      refine ⟨by rw [size_put]; exact f1, f2, fun s hs => ?_, fun j d' u hj hL => ?_⟩
      · have hne : s ≠ d := by
          rintro rfl
          have := hs i v hv
          unfold upd at this
          simp at this
        rw [eval_put_other _ _ _ _ hne]
        exact f3' s hs
      · unfold upd at hL
        simp only [Bool.or_eq_true, decide_eq_true_eq] at hL
        by_cases hji : j = i
        · subst hji
          rw [hv] at hj
          cases hj
          exact eval_put_same _ _ _ (by rw [f1, hN]; exact hm2)
        · rw [eval_put_other _ _ _ _ (fun e => hji (hdis' x' j i d' u v hj (by rw [e]; exact hv)))]
          exact f4' j d' u hj (hL.resolve_left hji)
  · rintro L L' a w hL ⟨x, ⟨f1, f2, f3, f4⟩, hW⟩
    refine ⟨x, ⟨f1, f2, fun s hs => f3 s fun j v hj => ?_, fun j d u hj hL' => f4 j d u hj ?_⟩, hext x L L' w hL hW⟩
    · rw [hL j (by rw [← hlen x]; exact (List.getElem?_eq_some_iff.1 hj).1)]
      exact hs j v hj
    · rw [hL j (by rw [← hlen x]; exact (List.getElem?_eq_some_iff.1 hj).1)]
      exact hL'
  · rintro a w ⟨x, ⟨f1, f2, f3, f4⟩, hW⟩
    have e : a = puts a0 (prs (l x)) := by
      refine act_ext (by rw [puts_size]; exact f1) (by rw [puts_defers]; exact f2) (fun s hs => ?_)
      by_cases hm : s ∈ (prs (l x)).map (·.1)
      · obtain ⟨⟨d, v⟩, hp, rfl⟩ := List.mem_map.1 hm
        obtain ⟨j, hj⟩ := prs_mem (l x) d v hp
        rw [f4 j d v hj rfl, puts_in (prs (l x)) (by rw [prs_fst, hl x]; exact hnd) d v hp a0 (by rw [hN]; exact (hin x j d v hj).2)]
      · rw [f3 s (fun j v hj => absurd (hin x j s v hj).1 hm), puts_not _ _ hm]
    rw [e]
    exact hfin x w hW
  · rw [Array.toList_replicate]
    exact Nat.le_trans (List.count_le_length) (by simp)
  · intro j o ho hj
    rw [rep_false] at hj
    cases hj
  · refine ⟨x0, ⟨rfl, rfl, fun _ _ => rfl, fun j d u hj hL => ?_⟩, hext x0 _ _ _ (fun j hj => (rep_false _ j).symm) h0⟩
    rw [rep_false] at hL
    cases hL

theorem rows_round {l n : Nat} {row : String} {args : Array Value} {w : World} {R : Value → World → Prop} (h : Rows P row args w R) : RowsIn (Fence.wide.inRound l) n P row args w R := by
  intro c cs _
  obtain ⟨v, w', r, s⟩ := h c cs
  exact ⟨v, w', r, stepsIn_wide.2 s⟩
theorem oper_round {l n : Nat} {o : Oper} {a : Act} {w : World} {K : Act → World → Prop} (hd : ∀ c, o.op ≠ .defer c) (hh : o.wp P a w K Q) : o.wpIn (Fence.wide.inRound l) n P a w K Q := by
  refine ⟨fun f _ => trivial, ?_⟩
  rw [Oper.semAt_plain _ _ _ hd]
  unfold Oper.wp at hh
  generalize (execOp a.eval o).run P w = r at *
  cases r with
  | ok x w' =>
    cases x <;> simp only [Oper.upon, Oper.uponIn] at hh ⊢ <;>
      first
        | exact hh
        | exact ⟨fun h => (by cases h), CallsIn.inRound l (callsIn_wide.2 hh)⟩
        | exact ⟨fun h => (by cases h), rows_round hh⟩
  | halt x w' => cases x <;> simp only [Oper.upon, Oper.uponIn] at hh ⊢ <;> exact hh
theorem op_round {l n i : Nat} {a : Act} {w : World} {K : Act → World → Prop} (hd : ∀ (i : Nat) (o : Oper), ops[i]? = some o → ∀ c, o.op ≠ .defer c) (hl : ¬ LetsOut Q) (hh : wpOp P ops Q i K a w) : wpOpIn (Fence.wide.inRound l) n P ops Q i K a w := by
  unfold wpOp at hh
  unfold wpOpIn
  cases ho : ops[i]? with
  | none => simpa [ho] using hh
  | some o =>
    simp only [ho] at hh ⊢
    split
    · rename_i hw
      simp only [hw, if_true] at hh
      rcases hh with hh | ⟨_, hh⟩
      · exact oper_round (hd i o ho) hh
      · exact absurd hh hl
    · rename_i hw
      simp only [hw] at hh
      exact ⟨fun f _ => trivial, hh⟩
theorem any_round {l n : Nat} {md : Region.Mode} (hd : ∀ (i : Nat) (o : Oper), ops[i]? = some o → ∀ c, o.op ≠ .defer c) (hl : ¬ LetsOut Q) : ∀ (fuel : Nat) (listed : Array Bool) (a : Act) (w : World), wpAny P md ops Q fuel listed a w → wpAnyIn (Fence.wide.inRound l) n P md ops Q fuel listed a w
  | 0, listed, a, w, h => h
  | fuel + 1, listed, a, w, h => ⟨h.1, fun i hi => wpOpIn_mono (fun a w => any_round hd hl fuel _ a w) (op_round hd hl (h.2 i hi))⟩
/-- the law, within a round of a loop -/
theorem wp_region_exR {X : Type} {l0 n0 : Nat} {rid : Nat} {a0 : Act} {w : World} (hm : P.follows .mixedOrders = true) (N : Nat) (l : X → List (Option Nat × Value)) (ds : List (Option Nat)) (hN : a0.tmps.size = N) (hrd : ∀ listed : Array Bool, listed.size = ops.size → Region.ready .any ops listed = [] → ∀ j, j < ops.size → listed.getD j false = true) (hd : (List.range ops.size).map (fun i => (ops[i]?).bind (·.dst)) = ds) (hl : ∀ x, (l x).map (·.1) = ds) (hs : slotsB N ds = true)
    (Wd : X → (Nat → Bool) → World → Prop) (hext : ∀ x L L' w, (∀ j, j < ops.size → L j = L' j) → Wd x L w → Wd x L' w)
    (hstep : ∀ (x : X) (L : Nat → Bool) (i : Nat) (o : Oper) (a : Act) (w : World), ops[i]? = some o → L i = false → Closed ops L → (∀ e ∈ o.after, Region.binds .any e = true → L e.on = true) → Fx a0 (l x) L a → Wd x L w →
      wpOp P ops (fun e a w => e = .normal ∧ Q .normal a w) i (fun a' w' => ∃ x', a' = a.put o.dst ((l x').getD i (none, undef)).2 ∧ (∀ j, L j = true → (l x')[j]? = (l x)[j]?) ∧ Wd x' (upd L i) w') a w)
    (hfin : ∀ x w', Wd x (fun _ => true) w' → Q .normal (puts a0 (prs (l x))) w') (x0 : X) (h0 : Wd x0 (fun _ => false) w.drew) (hnd : (ops.toList.all fun o => match o.op with | .defer _ => false | _ => true) = true := by rfl) : (Code.region rid ops true).wpIn (Fence.wide.inRound l0) n0 P Q a0 w := by
  have hd' : ∀ (i : Nat) (o : Oper), ops[i]? = some o → ∀ c, o.op ≠ .defer c := fun i o ho c hc => by
    have := List.all_eq_true.1 hnd o (by rw [← Array.mem_def]; exact Array.mem_of_getElem? ho)
    rw [hc] at this
    cases this
  have hlo : ¬ LetsOut (fun e a w => e = Exit.normal ∧ Q .normal a w) := by
    rintro ⟨a, w, h, _⟩
    cases h
  refine wpIn_mono (wpIn_region_any hm (any_round hd' hlo _ _ _ _ (any_ex (P := P) (Q := fun e a w => e = .normal ∧ Q .normal a w) N l ds hN hrd hd hl hs Wd hext hstep (fun x w' h => ⟨rfl, hfin x w' h⟩) x0 h0))) ?_
  rintro e a w ⟨rfl, h⟩
  exact h
end
end Go.Proofs.Ytjceeckcfjjkkaa.Ord
