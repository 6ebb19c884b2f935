/-
  Regions that draw their order: steps one behind the other; one operation's run.
  Conditions: as at each lemma.
-/
import Derived.Test.YtdifceikfnnfeaaDoorBa
namespace Go.Proofs.YtdifceikfnnfeaaDoor.Rg
open Go.ChangeShapes Go.WideShapes Go.ChangeAt Go.RowKit
set_option linter.unusedVariables false

theorem upd_ne (L : Nat → Bool) {c i : Nat} (h : decide (c = i) = false) : Ord.upd L i c = L c := by unfold Ord.upd; rw [h]; rfl
theorem upd_same (L : Nat → Bool) (i : Nat) : Ord.upd L i i = true := by unfold Ord.upd; rw [decide_eq_true rfl]; rfl
theorem no_of {b : Bool} {c : Bool} (h : b = true → c = true) (hc : c = false) : b = false := by
  cases b with
  | false => rfl
  | true => rw [h rfl] at hc; cases hc
/-- steps, one behind the other -/
def StM {X : Type} (cs : List Nat) (A : Nat → X → World → Prop) (x : X) (L : Nat → Bool) (w : World) : Prop :=
  ∃ k, k ≤ cs.length ∧ (∀ (j c : Nat), cs[j]? = some c → (L c = true ↔ j < k)) ∧ A k x w
section
variable {X : Type} {cs : List Nat} {A : Nat → X → World → Prop} {x : X} {L L' : Nat → Bool} {w : World}
theorem StM.ext {n : Nat} (hc : cs.all (fun c => decide (c < n)) = true) (hL : ∀ j, j < n → L j = L' j) (h : StM cs A x L w) : StM cs A x L' w := by
  obtain ⟨k, h1, h2, h3⟩ := h
  refine ⟨k, h1, fun j c hj => ?_, h3⟩
  rw [← hL c (of_decide_eq_true (List.all_eq_true.1 hc c (List.mem_of_getElem? hj)))]
  exact h2 j c hj
theorem StM.keep {i : Nat} (hi : cs.contains i = false) (h : StM cs A x L w) : StM cs A x (Ord.upd L i) w := by
  obtain ⟨k, h1, h2, h3⟩ := h
  refine ⟨k, h1, fun j c hj => ?_, h3⟩
  have hne : decide (c = i) = false := decide_eq_false fun e => by
    subst e
    rw [← Bool.not_eq_true, List.contains_iff_mem] at hi
    exact hi (List.mem_of_getElem? hj)
  rw [upd_ne L hne]
  exact h2 j c hj
theorem StM.stage {i k : Nat} (hk : cs[k]? = some i) (hi : L i = false) (hp : k = 0 ∨ ∃ c, cs[k - 1]? = some c ∧ L c = true) (h : StM cs A x L w) : k ≤ cs.length ∧ (∀ (j c : Nat), cs[j]? = some c → (L c = true ↔ j < k)) ∧ A k x w := by
  obtain ⟨k', h1, h2, h3⟩ := h
  have a1 : ¬ k < k' := fun h => by rw [(h2 k i hk).2 h] at hi; cases hi
  have a2 : k ≤ k' := by
    rcases hp with rfl | ⟨c, hc, hl⟩
    · exact Nat.zero_le _
    · have := (h2 (k - 1) c hc).1 hl
      omega
  obtain rfl : k' = k := by omega
  exact ⟨h1, h2, h3⟩
theorem StM.at {i k : Nat} (h : StM cs A x L w) (hk : cs[k]? = some i) (hi : L i = false) (hp : k = 0 ∨ ∃ c, cs[k - 1]? = some c ∧ L c = true) : A k x w := (h.stage hk hi hp).2.2
theorem StM.next {i k : Nat} {x' : X} {w' : World} (h : StM cs A x L w) (hk : cs[k]? = some i) (hn : cs.Nodup) (hi : L i = false) (hp : k = 0 ∨ ∃ c, cs[k - 1]? = some c ∧ L c = true) (hA : A (k + 1) x' w') : StM cs A x' (Ord.upd L i) w' := by
  obtain ⟨h1, h2, _⟩ := h.stage hk hi hp
  have hkl := (List.getElem?_eq_some_iff.1 hk).1
  refine ⟨k + 1, by omega, fun j c hj => ?_, hA⟩
  by_cases e : c = i
  · subst e
    have hjk : j = k := by
      have hjl := (List.getElem?_eq_some_iff.1 hj).1
      exact (List.getElem?_inj hjl hn).1 (hj.trans hk.symm)
    subst hjk
    rw [upd_same]
    exact ⟨fun _ => by omega, fun _ => rfl⟩
  · rw [upd_ne L (decide_eq_false e), h2 j c hj]
    have hjk : j ≠ k := fun e2 => by
      subst e2
      rw [hk] at hj
      exact e (Option.some.inj hj).symm
    omega
end
/-- not behind the last step -/
theorem StM.early {X : Type} {cs : List Nat} {A : Nat → X → World → Prop} {x : X} {L : Nat → Bool} {w : World} {c n : Nat} (h : StM cs A x L w) (hc : cs[n]? = some c) (hL : L c = false) : ∃ k, k ≤ n ∧ A k x w := by
  obtain ⟨k, h1, h2, h3⟩ := h
  refine ⟨k, ?_, h3⟩
  rcases Nat.lt_or_ge n k with h | h
  · rw [(h2 n c hc).2 h] at hL; cases hL
  · exact h

/-- what holds at every stage -/
theorem StM.any {X : Type} {cs : List Nat} {A : Nat → X → World → Prop} {x : X} {L : Nat → Bool} {w : World} {R : Prop} (h : StM cs A x L w) (hA : ∀ k, A k x w → R) : R := by
  obtain ⟨k, _, _, h3⟩ := h
  exact hA k h3
/-- the last stage -/
theorem StM.last {X : Type} {cs : List Nat} {A : Nat → X → World → Prop} {x : X} {w : World} (h : StM cs A x (fun _ => true) w) : A cs.length x w := by
  obtain ⟨k, h1, h2, h3⟩ := h
  obtain rfl : k = cs.length := by
    rcases Nat.lt_or_ge k cs.length with h | h
    · have := (h2 k cs[k] (List.getElem?_eq_getElem h)).1 rfl
      omega
    · omega
  exact h3
theorem StM.first {X : Type} {cs : List Nat} {A : Nat → X → World → Prop} {x : X} {w : World} (h : A 0 x w) : StM cs A x (fun _ => false) w :=
  ⟨0, Nat.zero_le _, fun j c _ => ⟨fun e => Bool.noConfusion e, fun e => absurd e (Nat.not_lt_zero _)⟩, h⟩

section
variable {P : Program} {a : Act} {o : Oper} {w w' : World}
theorem mv {v : Value} {x : Operand} (hx : a.eval x = v) (ho : o.op = .move x) : (execOp a.eval o).run P w = .ok (.value v) w := by
  unfold execOp; rw [ho]; simp only [hx]; rfl
theorem asg {v : Value} {x : Operand} (hx : a.eval x = v) (ho : o.op = .assign x) : (execOp a.eval o).run P w = .ok (.value v) w := by
  unfold execOp; rw [ho]; simp only [hx]; rfl
theorem nilc {p : Addr} {x : Operand} (hx : a.eval x = .pointer (some p)) (ho : o.op = .nilCheck x) : (execOp a.eval o).run P w = .ok (.value (.pointer (some p))) w := by
  unfold execOp; rw [ho]; simp only [hx]; rfl
theorem pick_t {x y z : Operand} {v : Value} (hx : a.eval x = .bool true) (hy : a.eval y = v) (ho : o.op = .pick x y z) : (execOp a.eval o).run P w = .ok (.value v) w := by
  unfold execOp; rw [ho]; simp only [hx]; simp [asBool, hy]
theorem pick_f {x y z : Operand} {v : Value} (hx : a.eval x = .bool false) (hz : a.eval z = v) (ho : o.op = .pick x y z) : (execOp a.eval o).run P w = .ok (.value v) w := by
  unfold execOp; rw [ho]; simp only [hx]; simp [asBool, hz]
theorem not_ {b : Bool} {x : Operand} {t : TypeId} (hx : a.eval x = .bool b) (ho : o.op = .unOp .not t x) : (execOp a.eval o).run P w = .ok (.value (.bool (!b))) w := by
  unfold execOp; rw [ho]; simp only [hx]; exact Ord.run_v rfl
theorem load {t : TypeId} {x : Operand} {u v : Value} (hx : a.eval x = u) (ho : o.op = .load t x) (hr : (Instr.loadAt t u).run P w = .ok v w) : (execOp a.eval o).run P w = .ok (.value v) w := by
  unfold execOp; rw [ho]; simp only [hx]; exact Ord.run_v hr
theorem fa {t : TypeId} {x : Operand} {i : Nat} {u v : Value} (hx : a.eval x = u) (ho : o.op = .fieldAddr t x i) (hr : (Instr.fieldAt t u i).run P w = .ok v w) : (execOp a.eval o).run P w = .ok (.value v) w := by
  unfold execOp; rw [ho]; simp only [hx]; exact Ord.run_v hr
theorem ix {t : TypeId} {x y : Operand} {u z v : Value} (hx : a.eval x = u) (hy : a.eval y = z) (ho : o.op = .indexAddr t x y) (hr : (Instr.indexAt t u z).run P w = .ok v w) : (execOp a.eval o).run P w = .ok (.value v) w := by
  unfold execOp; rw [ho]; simp only [hx, hy]; exact Ord.run_v hr
theorem bin {b : BinOp} {t t' : TypeId} {x y : Operand} {u z v : Value} (hx : a.eval x = u) (hy : a.eval y = z) (ho : o.op = .binOp b t x y t') (hr : (do eqGuard b t x y u z; binOp b t u z : Sem Value).run P w = .ok v w) : (execOp a.eval o).run P w = .ok (.value v) w := by
  unfold execOp; rw [ho]; simp only [hx, hy]; exact Ord.run_v hr
theorem ext {x : Operand} {i : Nat} {vs : Array Value} {v : Value} (hx : a.eval x = .tuple vs) (ho : o.op = .extract x i) (hr : (Instr.extract (.tuple vs) i).run P w = .ok v w) : (execOp a.eval o).run P w = .ok (.value v) w := by
  unfold execOp; rw [ho]; simp only [hx]; exact Ord.run_v hr
theorem sto {t : TypeId} {x y : Operand} {u v : Value} (hx : a.eval x = u) (hy : a.eval y = v) (ho : o.op = .store t x y) (hr : (Instr.storeAt t u v).run P w = .ok () w') : (execOp a.eval o).run P w = .ok .skip w' := by
  unfold execOp; rw [ho]; simp only [hx, hy, Sem.run_bind, hr, Result.andThen_ok, Sem.run_pure]
theorem mapu {t : TypeId} {x y z : Operand} {m k v : Value} (hx : a.eval x = m) (hy : a.eval y = k) (hz : a.eval z = v) (ho : o.op = .mapUpdate t x y z) (hr : (Instr.mapUpdate t m k v).run P w = .ok () w') : (execOp a.eval o).run P w = .ok .skip w' := by
  unfold execOp; rw [ho]; simp only [hx, hy, hz, Sem.run_bind, hr, Result.andThen_ok, Sem.run_pure]
theorem lku {t : TypeId} {x y : Operand} {c : Bool} {m k v : Value} (hx : a.eval x = m) (hy : a.eval y = k) (ho : o.op = .lookup t x y c) (hr : (Instr.lookup t m k c).run P w = .ok v w) : (execOp a.eval o).run P w = .ok (.value v) w := by
  unfold execOp; rw [ho]; simp only [hx, hy]; exact Ord.run_v hr
theorem alo {t : TypeId} {v : Value} (ho : o.op = .alloc t) (hr : (Instr.alloc t true (.tuple #[])).run P w = .ok v w') : (execOp a.eval o).run P w = .ok (.value v) w' := by
  unfold execOp; rw [ho]; exact Ord.run_v hr
theorem bx {t : TypeId} {x : Operand} {u v : Value} (hx : a.eval x = u) (ho : o.op = .box t x) (hr : (Instr.box t u).run P w = .ok v w') : (execOp a.eval o).run P w = .ok (.value v) w' := by
  unfold execOp; rw [ho]; simp only [hx]; exact Ord.run_v hr
theorem app {x y : Operand} {t t' : TypeId} {u v r : Value} (h0 : a.eval x = u) (h1 : a.eval y = v) (ho : o.op = .call { callee := .builtin .append, args := #[x, y], argTypes := #[t, t'] }) (hr : (Builtin.append_ #[t, t'] o.type #[u, v]).run P w = .ok r w') : (execOp a.eval o).run P w = .ok (.value r) w' := by
  have e : execOp a.eval o = (do pure (.value (← Builtin.append_ #[t, t'] o.type #[a.eval x, a.eval y]))) := by
    unfold execOp
    rw [ho]
    simp [resolve, invoke, builtin]
  rw [e, h0, h1]
  exact Ord.run_v hr
theorem len_ {x : Operand} {t : TypeId} {u r : Value} (h0 : a.eval x = u) (ho : o.op = .call { callee := .builtin .len, args := #[x], argTypes := #[t] }) (hr : (Builtin.len_ #[t] o.type #[u]).run P w = .ok r w) : (execOp a.eval o).run P w = .ok (.value r) w := by
  have e : execOp a.eval o = (do pure (.value (← Builtin.len_ #[t] o.type #[a.eval x]))) := by
    unfold execOp
    rw [ho]
    simp [resolve, invoke, builtin]
  rw [e, h0]
  exact Ord.run_v hr
end

/-- between two steps -/
theorem StM.range {X : Type} {cs : List Nat} {A : Nat → X → World → Prop} {x : X} {L : Nat → Bool} {w : World} (h : StM cs A x L w) (lo hi : Nat) (hlo : lo = 0 ∨ ∃ c, cs[lo - 1]? = some c ∧ L c = true) (hhi : hi = cs.length ∨ ∃ c, cs[hi]? = some c ∧ L c = false) : ∃ k, lo ≤ k ∧ k ≤ hi ∧ A k x w := by
  obtain ⟨k, h1, h2, h3⟩ := h
  refine ⟨k, ?_, ?_, h3⟩
  · rcases hlo with rfl | ⟨c, hc, hl⟩
    · exact Nat.zero_le _
    · have := (h2 _ c hc).1 hl
      omega
  · rcases hhi with rfl | ⟨c, hc, hl⟩
    · exact h1
    · rcases Nat.lt_or_ge hi k with h | h
      · rw [(h2 _ c hc).2 h] at hl; cases hl
      · exact h
section
variable {P : Program} {ops : Array Oper} {Q : Exit → Act → World → Prop}
theorem ex_skip {X : Type} {l : X → List (Option Nat × Value)} {L : Nat → Bool} {i : Nat} {o : Oper} {a : Act} {w w' : World} {R : X → World → Prop} (x : X) (ho : ops[i]? = some o) (hw : Region.wanted o (yielded ops a.tmps) = true)
    (hr : (execOp a.eval o).run P w = .ok .skip w') (hd : o.dst = none) (hR : R x w') : wpOp P ops Q i (fun a' w'' => ∃ x', a' = a.put o.dst ((l x').getD i (none, undef)).2 ∧ (∀ j, L j = true → (l x')[j]? = (l x)[j]?) ∧ R x' w'') a w := by
  refine Ord.wpOp_of ho hw ?_
  unfold Oper.wp
  rw [hr]
  refine ⟨x, ?_, fun _ _ => rfl, hR⟩
  rw [hd]
  rfl
/-- a call whose value is told -/
theorem ex_call {X : Type} {l : X → List (Option Nat × Value)} {L : Nat → Bool} {i : Nat} {o : Oper} {a : Act} {w : World} {f : FuncId} {args : Array Value} {R : X → World → Prop} (x : X) (ho : ops[i]? = some o) (hw : Region.wanted o (yielded ops a.tmps) = true)
    (hr : (execOp a.eval o).run P w = .ok (.enter f args) w) (hc : Calls P f args w fun e w' => e = .returned ((l x).getD i (none, undef)).2 ∧ R x w') : wpOp P ops Q i (fun a' w'' => ∃ x', a' = a.put o.dst ((l x').getD i (none, undef)).2 ∧ (∀ j, L j = true → (l x')[j]? = (l x)[j]?) ∧ R x' w'') a w :=
  Ord.wpOp_of ho hw (Ord.wp_enter hr (Calls.mono hc (by rintro e w' ⟨rfl, hR⟩; exact ⟨_, rfl, x, rfl, fun _ _ => rfl, hR⟩)))
/-- .. or letters -/
theorem ex_calll {X : Type} {l : X → List (Option Nat × Value)} {L : Nat → Bool} {i : Nat} {o : Oper} {a : Act} {w : World} {f : FuncId} {args : Array Value} {R : X → World → Prop} (x : X) (ho : ops[i]? = some o) (hw : Region.wanted o (yielded ops a.tmps) = true)
    (hr : (execOp a.eval o).run P w = .ok (.enter f args) w) (hc : Calls P f args w fun e w' => ∃ x', e = .returned ((l x').getD i (none, undef)).2 ∧ (∀ j, L j = true → (l x')[j]? = (l x)[j]?) ∧ R x' w') : wpOp P ops Q i (fun a' w'' => ∃ x', a' = a.put o.dst ((l x').getD i (none, undef)).2 ∧ (∀ j, L j = true → (l x')[j]? = (l x)[j]?) ∧ R x' w'') a w :=
  Ord.wpOp_of ho hw (Ord.wp_enter hr (Calls.mono hc (by rintro e w' ⟨x', rfl, hs, hR⟩; exact ⟨_, rfl, x', rfl, hs, hR⟩)))
end
section
variable {P : Program} {a : Act} {o : Oper} {w : World}
theorem enter {f : FuncId} {c : Operand} {xs : Array Operand} {T : Array TypeId} {args : Array Value} (ho : o.op = .call { callee := .value c, args := xs, argTypes := T }) (hc : a.eval c = .func (.func f) #[] #[]) (hx : xs.map a.eval = args)
    (he : ∀ (args : Array Value) (w : World), (callFunc f args).run P w = .ok (.enter f args) w) : (execOp a.eval o).run P w = .ok (.enter f args) w := by
  have e : execOp a.eval o = (do let d ← Deferred.ofValue (a.eval c) (xs.map a.eval); invoke d.target d.args : Sem Next) := by
    unfold execOp
    rw [ho]
    rfl
  rw [e, hc, hx]
  simp only [Deferred.ofValue, Sem.run_bind, Sem.run_pure, Result.andThen_ok, invoke]
  rw [he]
  simp
theorem bsl {t : TypeId} {n : Nat} {xs : Array (Nat × Operand)} {ys : Array (Nat × Value)} {v : Value} {w' : World} (ho : o.op = .buildSlice t n xs) (hx : (xs.map fun (i, x) => (i, a.eval x)) = ys) (hr : (Instr.buildSlice t n ys).run P w = .ok v w') : (execOp a.eval o).run P w = .ok (.value v) w' := by
  unfold execOp; rw [ho]; simp only [hx]; exact Ord.run_v hr
theorem bld {t : TypeId} {xs : Array (Nat × Operand)} {ys : Array (Nat × Value)} {v : Value} (ho : o.op = .build t xs) (hx : (xs.map fun (i, x) => (i, a.eval x)) = ys) (hr : (Instr.build t ys).run P w = .ok v w) : (execOp a.eval o).run P w = .ok (.value v) w := by
  unfold execOp; rw [ho]; simp only [hx]; exact Ord.run_v hr
theorem slc {t : TypeId} {x : Operand} {lo hi mx : Option Operand} {u v : Value} {l h m : Option Value} (hx : a.eval x = u) (hl : lo.map a.eval = l) (hh : hi.map a.eval = h) (hm : mx.map a.eval = m) (ho : o.op = .slice t x lo hi mx) (hr : (Instr.sliceAt t u l h m).run P w = .ok v w) : (execOp a.eval o).run P w = .ok (.value v) w := by
  unfold execOp; rw [ho]; simp only [hx, hl, hh, hm]; exact Ord.run_v hr
theorem del_ {x y : Operand} {t t' : TypeId} {u v r : Value} {w' : World} (h0 : a.eval x = u) (h1 : a.eval y = v) (ho : o.op = .call { callee := .builtin .delete, args := #[x, y], argTypes := #[t, t'] }) (hr : (Builtin.delete_ #[t, t'] o.type #[u, v]).run P w = .ok r w') : (execOp a.eval o).run P w = .ok (.value r) w' := by
  have e : execOp a.eval o = (do pure (.value (← Builtin.delete_ #[t, t'] o.type #[a.eval x, a.eval y]))) := by
    unfold execOp
    rw [ho]
    simp [resolve, invoke, builtin]
  rw [e, h0, h1]
  exact Ord.run_v hr
end
/-- an append whose run is known, in a region in order -/
theorem wpList_app {P : Program} {ops : Array Oper} {rest : List Oper} {o : Oper} {a : Act} {Q : Exit → Act → World → Prop} {w w' : World} {u v r : Value} (hg : o.guard = none) (x y : Operand) (t : TypeId) (ho : o.op = .call { callee := .builtin .append, args := #[x, y], argTypes := #[t, t] })
    (h0 : a.eval x = u) (h1 : a.eval y = v) (hr : (Builtin.append_ #[t, t] o.type #[u, v]).run P w = .ok r w') (hK : wpList P ops Q rest (a.put o.dst r) w') : wpList P ops Q (o :: rest) a w := by
  refine wpList_plain hg fun K hK' => ?_
  exact Ord.wp_value (app h0 h1 ho hr) (hK' _ _ hK)
end Go.Proofs.YtdifceikfnnfeaaDoor.Rg
