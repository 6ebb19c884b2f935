/-
  A region that draws its order, most of whose values are told ahead; the others are letters until their operations are done. A slot keeps what it held until its operation is done.
  Conditions: each operation's edges lead to operations ahead of it in the text; the slots are of their own.
-/
import Derived.Test.YtifdkpifambhaaaOrders5
namespace Go.Proofs.Ytifdkpifambhaaa.Ord
open Go.ChangeShapes Go.WideShapes Go.ChangeAt Go.RowKit
set_option linter.unusedVariables false

section
variable {P : Program} {ops : Array Oper} {Q : Exit → Act → World → Prop}
/-- what is known of the frame -/
def Fx (a0 : Act) (l : List (Option Nat × Value)) (L : Nat → Bool) (a : Act) : Prop :=
  a.tmps.size = a0.tmps.size ∧ a.defers = a0.defers ∧ (∀ s : Nat, (∀ (j : Nat) (v : Value), l[j]? = some (some s, v) → L j = false) → a.eval (.tmp s) = a0.eval (.tmp s)) ∧ ∀ (j d : Nat) (v : Value), l[j]? = some (some d, v) → L j = true → a.eval (.tmp d) = v
/-- a slot that no operation fills -/
theorem Fx.old {a0 a : Act} {l : List (Option Nat × Value)} {L : Nat → Bool} (h : Fx a0 l L a) (s : Nat) (hs : (l.map (·.1)).contains (some s) = false) : a.eval (.tmp s) = a0.eval (.tmp s) := by
  refine h.2.2.1 s fun j v hj => ?_
  rw [← Bool.not_eq_true, List.contains_iff_mem] at hs
  exact absurd (List.mem_map.2 ⟨_, List.mem_of_getElem? hj, rfl⟩) hs
/-- a slot that one operation fills that is not done -/
theorem Fx.yet {a0 a : Act} {l : List (Option Nat × Value)} {L : Nat → Bool} (h : Fx a0 l L a) (s i : Nat) (hs : ((List.range l.length).all fun j => decide (j = i) || decide ((l.map (·.1)).getD j none ≠ some s)) = true) (hi : L i = false) : a.eval (.tmp s) = a0.eval (.tmp s) := by
  refine h.2.2.1 s fun j v hj => ?_
  have hl := (List.getElem?_eq_some_iff.1 hj).1
  have := List.all_eq_true.1 hs j (List.mem_range.2 hl)
  simp only [List.getD_eq_getElem?_getD, List.getElem?_map, hj, Option.map_some, Option.getD_some, Bool.or_eq_true, decide_eq_true_eq] at this
  rcases this with rfl | h'
  · exact hi
  · exact absurd rfl h'
/-- THE LAW -/
theorem wp_region_ex0 {X : Type} {rid : Nat} {a0 : Act} {w : World} (hm : P.follows .mixedOrders = true) (N : Nat) (l : X → List (Option Nat × Value)) (ds : List (Option Nat)) (hN : a0.tmps.size = N) (hrd : ∀ listed : Array Bool, listed.size = ops.size → Region.ready .any ops listed = [] → ∀ j, j < ops.size → listed.getD j false = true) (hd : (List.range ops.size).map (fun i => (ops[i]?).bind (·.dst)) = ds) (hl : ∀ x, (l x).map (·.1) = ds) (hs : slotsB N ds = true)
    (Wd : X → (Nat → Bool) → World → Prop) (hext : ∀ x L L' w, (∀ j, j < ops.size → L j = L' j) → Wd x L w → Wd x L' w)
    (hstep : ∀ (x : X) (L : Nat → Bool) (i : Nat) (o : Oper) (a : Act) (w : World), ops[i]? = some o → L i = false → Closed ops L → (∀ e ∈ o.after, Region.binds .any e = true → L e.on = true) → Fx a0 (l x) L a → Wd x L w →
      wpOp P ops Q i (fun a' w' => ∃ x', a' = a.put o.dst ((l x').getD i (none, undef)).2 ∧ (∀ j, L j = true → (l x')[j]? = (l x)[j]?) ∧ Wd x' (upd L i) w') a w)
    (hfin : ∀ x w', Wd x (fun _ => true) w' → Q .normal (puts a0 (prs (l x))) w') (x0 : X) (h0 : Wd x0 (fun _ => false) w.drew) : (Code.region rid ops true).wp P Q a0 w := by
  simp only [slotsB, Bool.and_eq_true, decide_eq_true_eq, List.all_eq_true, List.mem_range, Bool.or_eq_true] at hs
  obtain ⟨⟨hnd, hlt⟩, hdis⟩ := hs
  have hlen : ∀ x, (l x).length = ops.size := by
    intro x
    have h1 := congrArg List.length hd
    have h2 := congrArg List.length (hl x)
    simp only [List.length_map, List.length_range] at h1 h2
    omega
  have hdst : ∀ (x : X) (i : Nat) (o : Oper), ops[i]? = some o → ∃ v, (l x)[i]? = some (o.dst, v) := by
    intro x i o ho
    have hi : i < ops.size := (Array.getElem?_eq_some_iff.1 ho).1
    have e := congrArg (fun y => y[i]?) (hd.trans (hl x).symm)
    simp only [List.getElem?_map, List.getElem?_range hi, Option.map_some, ho, Option.bind_some] at e
    cases hx : (l x)[i]? with
    | none => rw [hx] at e; cases e
    | some p =>
      rw [hx] at e
      simp at e
      exact ⟨p.2, by rw [e]⟩
  have hdis' : ∀ (x : X) (i j d : Nat) (v v' : Value), (l x)[i]? = some (some d, v) → (l x)[j]? = some (some d, v') → i = j := by
    intro x i j d v v' h1 h2
    have hi := (List.getElem?_eq_some_iff.1 h1).1
    have hj := (List.getElem?_eq_some_iff.1 h2).1
    have hlx : ds.length = (l x).length := by rw [← hl x, List.length_map]
    have := hdis i (by omega) j (by omega)
    rw [← hl x] at this
    simp only [List.getD_eq_getElem?_getD, List.getElem?_map, h1, h2, Option.map_some, Option.getD_some] at this
    rcases this with (h | h) | h
    · exact h
    · exact absurd rfl h
    · cases h
  have hin : ∀ (x : X) (j d : Nat) (v : Value), (l x)[j]? = some (some d, v) → d ∈ (prs (l x)).map (·.1) ∧ d < N := by
    intro x j d v h
    have hm : d ∈ ds.filterMap id := by
      rw [← hl x]
      exact List.mem_filterMap.2 ⟨some d, List.mem_map.2 ⟨(some d, v), List.mem_of_getElem? h, rfl⟩, rfl⟩
    exact ⟨by rw [prs_fst, hl x]; exact hm, hlt d hm⟩
  refine wp_region_any hm ?_
  refine all_inv2 (fun L a w => ∃ x, Fx a0 (l x) L a ∧ Wd x L w) hrd ?_ ?_ ?_ _ _ _ _ (by simp) ?_ ?_ ?_
  · rintro L i o a w ho hLi hcl hdep ⟨x, hF, hW⟩
    refine wpOp_mono ?_ (hstep x L i o a w ho hLi hcl hdep hF hW)
    rintro a' w' ⟨x', rfl, hsame, hW'⟩
    refine ⟨x', ?_, hW'⟩
    obtain ⟨f1, f2, f3, f4⟩ := hF
    obtain ⟨v, hv⟩ := hdst x' i o ho
    have ev : ((l x').getD i (none, undef)).2 = v := by rw [List.getD_eq_getElem?_getD, hv]; rfl
    rw [ev]
    have f3' : ∀ s : Nat, (∀ (j : Nat) (v : Value), (l x')[j]? = some (some s, v) → upd L i j = false) → a.eval (.tmp s) = a0.eval (.tmp s) := by
      intro s hs
      refine f3 s fun j u hj => ?_
      cases hb : L j with
      | false => rfl
      | true =>
        have := hs j u (by rw [hsame j hb]; exact hj)
        unfold upd at this
        rw [hb] at this
        simp at this
    have f4' : ∀ (j d : Nat) (u : Value), (l x')[j]? = some (some d, u) → L j = true → a.eval (.tmp d) = u := fun j d u hj hL => f4 j d u (by rw [← hsame j hL]; exact hj) hL
    cases hod : o.dst with
    | none =>
      refine ⟨f1, f2, f3', fun j d u hj hL => f4' j d u hj ?_⟩
      unfold upd at hL
      simp only [Bool.or_eq_true, decide_eq_true_eq] at hL
      rcases hL with rfl | hL
      · rw [hv, hod] at hj
        cases hj
      · exact hL
    | some d =>
      rw [hod] at hv
      obtain ⟨hm1, hm2⟩ := hin x' i d v hv
      refine ⟨by rw [size_put]; exact f1, f2, fun s hs => ?_, fun j d' u hj hL => ?_⟩
      · have hne : s ≠ d := by
          rintro rfl
          have := hs i v hv
          unfold upd at this
          simp at this
        rw [eval_put_other _ _ _ _ hne]
        exact f3' s hs
      · unfold upd at hL
        simp only [Bool.or_eq_true, decide_eq_true_eq] at hL
        by_cases hji : j = i
        · subst hji
          rw [hv] at hj
          cases hj
          exact eval_put_same _ _ _ (by rw [f1, hN]; exact hm2)
        · rw [eval_put_other _ _ _ _ (fun e => hji (hdis' x' j i d' u v hj (by rw [e]; exact hv)))]
          exact f4' j d' u hj (hL.resolve_left hji)
  · rintro L L' a w hL ⟨x, ⟨f1, f2, f3, f4⟩, hW⟩
    refine ⟨x, ⟨f1, f2, fun s hs => f3 s fun j v hj => ?_, fun j d u hj hL' => f4 j d u hj ?_⟩, hext x L L' w hL hW⟩
    · rw [hL j (by rw [← hlen x]; exact (List.getElem?_eq_some_iff.1 hj).1)]
      exact hs j v hj
    · rw [hL j (by rw [← hlen x]; exact (List.getElem?_eq_some_iff.1 hj).1)]
      exact hL'
  · rintro a w ⟨x, ⟨f1, f2, f3, f4⟩, hW⟩
    have e : a = puts a0 (prs (l x)) := by
      refine act_ext (by rw [puts_size]; exact f1) (by rw [puts_defers]; exact f2) (fun s hs => ?_)
      by_cases hm : s ∈ (prs (l x)).map (·.1)
      · obtain ⟨⟨d, v⟩, hp, rfl⟩ := List.mem_map.1 hm
        obtain ⟨j, hj⟩ := prs_mem (l x) d v hp
        rw [f4 j d v hj rfl, puts_in (prs (l x)) (by rw [prs_fst, hl x]; exact hnd) d v hp a0 (by rw [hN]; exact (hin x j d v hj).2)]
      · rw [f3 s (fun j v hj => absurd (hin x j s v hj).1 hm), puts_not _ _ hm]
    rw [e]
    exact hfin x w hW
  · rw [Array.toList_replicate]
    exact Nat.le_trans (List.count_le_length) (by simp)
  · intro j o ho hj
    rw [rep_false] at hj
    cases hj
  · refine ⟨x0, ⟨rfl, rfl, fun _ _ => rfl, fun j d u hj hL => ?_⟩, hext x0 _ _ _ (fun j hj => (rep_false _ j).symm) h0⟩
    rw [rep_false] at hL
    cases hL
theorem wp_region_ex {X : Type} {rid : Nat} {a0 : Act} {w : World} (hm : P.follows .mixedOrders = true) (N : Nat) (l : X → List (Option Nat × Value)) (ds : List (Option Nat)) (hN : a0.tmps.size = N) (hback : backB ops = true) (hd : (List.range ops.size).map (fun i => (ops[i]?).bind (·.dst)) = ds) (hl : ∀ x, (l x).map (·.1) = ds) (hs : slotsB N ds = true)
    (Wd : X → (Nat → Bool) → World → Prop) (hext : ∀ x L L' w, (∀ j, j < ops.size → L j = L' j) → Wd x L w → Wd x L' w)
    (hstep : ∀ (x : X) (L : Nat → Bool) (i : Nat) (o : Oper) (a : Act) (w : World), ops[i]? = some o → L i = false → Closed ops L → (∀ e ∈ o.after, Region.binds .any e = true → L e.on = true) → Fx a0 (l x) L a → Wd x L w →
      wpOp P ops Q i (fun a' w' => ∃ x', a' = a.put o.dst ((l x').getD i (none, undef)).2 ∧ (∀ j, L j = true → (l x')[j]? = (l x)[j]?) ∧ Wd x' (upd L i) w') a w)
    (hfin : ∀ x w', Wd x (fun _ => true) w' → Q .normal (puts a0 (prs (l x))) w') (x0 : X) (h0 : Wd x0 (fun _ => false) w.drew) : (Code.region rid ops true).wp P Q a0 w :=
  wp_region_ex0 hm N l ds hN (fun listed hsz hr => all_listed hback hsz hr) hd hl hs Wd hext hstep hfin x0 h0
/-- all values told ahead; edges that do not bind may lead forward -/
theorem wp_region_detC {rid : Nat} {a0 : Act} {w : World} (hm : P.follows .mixedOrders = true) (rank : List Nat) (N : Nat) (l : List (Option Nat × Value)) (hN : a0.tmps.size = N) (hback : backC ops rank = true) (hd : (List.range ops.size).map (fun i => (ops[i]?).bind (·.dst)) = l.map (·.1)) (hs : slotsB N (l.map (·.1)) = true)
    (Wd : (Nat → Bool) → World → Prop) (hext : ∀ L L' w, (∀ j, j < ops.size → L j = L' j) → Wd L w → Wd L' w)
    (hstep : ∀ (L : Nat → Bool) (i : Nat) (o : Oper) (a : Act) (w : World), ops[i]? = some o → L i = false → Closed ops L → (∀ e ∈ o.after, Region.binds .any e = true → L e.on = true) → Fx a0 l L a → Wd L w → wpOp P ops Q i (fun a' w' => a' = a.put o.dst (l.getD i (none, undef)).2 ∧ Wd (upd L i) w') a w)
    (hfin : ∀ w', Wd (fun _ => true) w' → Q .normal (puts a0 (prs l)) w') (h0 : Wd (fun _ => false) w.drew) : (Code.region rid ops true).wp P Q a0 w := by
  refine wp_region_ex0 (X := Unit) hm N (fun _ => l) _ hN (fun listed hsz hr => all_listedC hback hsz hr) hd (fun _ => rfl) hs (fun _ L w => Wd L w) (fun _ L L' w h1 h2 => hext L L' w h1 h2) ?_ (fun _ w' h => hfin w' h) () h0
  intro x L i o a w ho hi hcl hdep hF hW
  refine wpOp_mono ?_ (hstep L i o a w ho hi hcl hdep hF hW)
  rintro a' w' ⟨h1, h2⟩
  exact ⟨(), h1, fun _ _ => rfl, h2⟩
/-- two steps, one behind the other -/
def St (c1 c2 : Nat) (A0 : World → Prop) (A1 A2 : Value → World → Prop) (x : Value × Value) (L : Nat → Bool) (w : World) : Prop :=
  (L c1 = false → A0 w) ∧ (L c1 = true → L c2 = false → A1 x.1 w) ∧ (L c2 = true → A2 x.2 w) ∧ (L c2 = true → L c1 = true)
theorem St.ext {c1 c2 n : Nat} {A0 : World → Prop} {A1 A2 : Value → World → Prop} {x : Value × Value} {L L' : Nat → Bool} {w : World} (h1 : c1 < n) (h2 : c2 < n) (hL : ∀ j, j < n → L j = L' j) (h : St c1 c2 A0 A1 A2 x L w) : St c1 c2 A0 A1 A2 x L' w := by
  unfold St at h ⊢
  rw [← hL c1 h1, ← hL c2 h2]
  exact h
theorem St.keep {c1 c2 i : Nat} {A0 : World → Prop} {A1 A2 : Value → World → Prop} {x : Value × Value} {L : Nat → Bool} {w : World} (h1 : decide (c1 = i) = false) (h2 : decide (c2 = i) = false) (h : St c1 c2 A0 A1 A2 x L w) : St c1 c2 A0 A1 A2 x (upd L i) w := by
  have e1 : upd L i c1 = L c1 := by unfold upd; rw [h1]; rfl
  have e2 : upd L i c2 = L c2 := by unfold upd; rw [h2]; rfl
  unfold St at h ⊢
  rw [e1, e2]
  exact h
theorem St.one {c1 c2 : Nat} {A0 : World → Prop} {A1 A2 : Value → World → Prop} {x : Value × Value} {L : Nat → Bool} {w w' : World} {v : Value} (hne : decide (c2 = c1) = false) (hL : L c1 = false) (h : St c1 c2 A0 A1 A2 x L w) (hv : A1 v w') : St c1 c2 A0 A1 A2 (v, x.2) (upd L c1) w' := by
  have h2 : L c2 = false := by
    cases hb : L c2 with
    | false => rfl
    | true => rw [h.2.2.2 hb] at hL; cases hL
  have e1 : upd L c1 c1 = true := by unfold upd; rw [decide_eq_true rfl]; rfl
  have e2 : upd L c1 c2 = false := by unfold upd; rw [hne, h2]; rfl
  unfold St
  rw [e1, e2]
  exact ⟨(fun e => Bool.noConfusion e), (fun _ _ => hv), (fun e => Bool.noConfusion e), (fun _ => rfl)⟩
theorem St.two {c1 c2 : Nat} {A0 : World → Prop} {A1 A2 : Value → World → Prop} {x : Value × Value} {L : Nat → Bool} {w' : World} {v : Value} (hL : L c1 = true) (hv : A2 v w') : St c1 c2 A0 A1 A2 (x.1, v) (upd L c2) w' := by
  have e1 : upd L c2 c1 = true := by unfold upd; rw [hL, Bool.or_true]
  have e2 : upd L c2 c2 = true := by unfold upd; rw [decide_eq_true rfl]; rfl
  unfold St
  rw [e1, e2]
  exact ⟨(fun e => Bool.noConfusion e), (fun _ e => Bool.noConfusion e), (fun _ => hv), (fun _ => rfl)⟩
theorem St.all {c1 c2 : Nat} {A0 : World → Prop} {A1 A2 : Value → World → Prop} {x : Value × Value} {L : Nat → Bool} {w : World} {R : Prop} (h : St c1 c2 A0 A1 A2 x L w) (h0 : A0 w → R) (h1 : ∀ v, A1 v w → R) (h2 : ∀ v, A2 v w → R) : R := by
  cases hb : L c2 with
  | true => exact h2 _ (h.2.2.1 hb)
  | false =>
    cases ha : L c1 with
    | true => exact h1 _ (h.2.1 ha hb)
    | false => exact h0 (h.1 ha)
/-- one operation -/
theorem ex_value {X : Type} {l : X → List (Option Nat × Value)} {L : Nat → Bool} {i : Nat} {o : Oper} {a : Act} {w w' : World} {v : Value} {R : X → World → Prop} (x : X) (ho : ops[i]? = some o) (hw : Region.wanted o (yielded ops a.tmps) = true)
    (hr : (execOp a.eval o).run P w = .ok (.value v) w') (hv : v = ((l x).getD i (none, undef)).2) (hR : R x w') : wpOp P ops Q i (fun a' w'' => ∃ x', a' = a.put o.dst ((l x').getD i (none, undef)).2 ∧ (∀ j, L j = true → (l x')[j]? = (l x)[j]?) ∧ R x' w'') a w :=
  wpOp_of ho hw (wp_value hr ⟨x, by rw [hv], fun _ _ => rfl, hR⟩)
/-- one whose value is a letter -/
theorem ex_letter {X : Type} {l : X → List (Option Nat × Value)} {L : Nat → Bool} {i : Nat} {o : Oper} {a : Act} {w w' : World} {v : Value} {R : X → World → Prop} (x x' : X) (ho : ops[i]? = some o) (hw : Region.wanted o (yielded ops a.tmps) = true)
    (hr : (execOp a.eval o).run P w = .ok (.value v) w') (hv : v = ((l x').getD i (none, undef)).2) (hs : ∀ j, L j = true → (l x')[j]? = (l x)[j]?) (hR : R x' w') : wpOp P ops Q i (fun a' w'' => ∃ x', a' = a.put o.dst ((l x').getD i (none, undef)).2 ∧ (∀ j, L j = true → (l x')[j]? = (l x)[j]?) ∧ R x' w'') a w :=
  wpOp_of ho hw (wp_value hr ⟨x', by rw [hv], hs, hR⟩)
theorem ex_call {X : Type} {l : X → List (Option Nat × Value)} {L : Nat → Bool} {i : Nat} {o : Oper} {a : Act} {w : World} {f : FuncId} {args : Array Value} {R : X → World → Prop} (x : X) (nx : Value → X) (ho : ops[i]? = some o) (hw : Region.wanted o (yielded ops a.tmps) = true)
    (hr : (execOp a.eval o).run P w = .ok (.enter f args) w) (hv : ∀ v, ((l (nx v)).getD i (none, undef)).2 = v) (hs : ∀ v j, L j = true → (l (nx v))[j]? = (l x)[j]?) (hc : Calls P f args w fun e w' => ∃ v, e = .returned v ∧ R (nx v) w') : wpOp P ops Q i (fun a' w'' => ∃ x', a' = a.put o.dst ((l x').getD i (none, undef)).2 ∧ (∀ j, L j = true → (l x')[j]? = (l x)[j]?) ∧ R x' w'') a w :=
  wpOp_of ho hw (wp_enter hr (Calls.mono hc (by rintro e w' ⟨v, rfl, hR⟩; exact ⟨v, rfl, nx v, by rw [hv], hs v, hR⟩)))
end
end Go.Proofs.Ytifdkpifambhaaa.Ord
