/-
  A chain of comparisons in a plain region ('a.X == b.X && a.Y == b.Y && ..', 'a.X != b.X || ..'), link by link: whatever the guards say, the slot behind each link holds what the chain says so far.
  Conditions: the slots are of their own.
-/
import Derived.Test.YtifdkpifambhaaaOrders2
namespace Go.Proofs.Ytifdkpifambhaaa.Ord
open Go.ChangeShapes Go.WideShapes Go.ChangeAt Go.RowKit
set_option linter.unusedVariables false

section
variable {P : Program} {ops : Array Oper} {Q : Exit → Act → World → Prop}
theorem wpList_val {o : Oper} {rest : List Oper} {a : Act} {w w' : World} {d : Nat} {v : Value} (hw : Region.wanted o (yielded ops a.tmps) = true) (hd : o.dst = some d)
    (hr : (execOp a.eval o).run P w = .ok (.value v) w') (h : wpList P ops Q rest (a.put (some d) v) w') : wpList P ops Q (o :: rest) a w := by
  refine BigFrame.wpList_want hw fun K hK => wp_value hr (hK _ _ ?_)
  rw [hd]; exact h
theorem wpList_not {o : Oper} {rest : List Oper} {a : Act} {w : World} {d : Nat} (hw : Region.wanted o (yielded ops a.tmps) = false) (hd : o.dst = some d)
    (h : wpList P ops Q rest (a.put (some d) undef) w) : wpList P ops Q (o :: rest) a w := by
  unfold wpList
  rw [if_neg (by rw [hw]; decide), hd]
  exact h
theorem wanted_none {a : Act} {o : Oper} (h : o.guard = none) : Region.wanted o (yielded ops a.tmps) = true := by simp [Region.wanted, h]
theorem wanted_no {a : Act} {o : Oper} {k d : Nat} {bv : Bool} (da : a.eval (.tmp d) = .bool (!bv)) (hs : d < a.tmps.size) (ho : o.guard = some (k, bv)) (hk : (ops[k]?).bind (·.dst) = some d) : Region.wanted o (yielded ops a.tmps) = false := by
  have e : a.tmps[d]? = some (.bool (!bv)) := by
    have : a.tmps.getD d undef = .bool (!bv) := da
    rw [Array.getD_eq_getD_getElem?, Array.getElem?_eq_getElem (by omega)] at this
    rw [Array.getElem?_eq_getElem (by omega)]
    simpa using this
  cases bv <;> simp [Region.wanted, yielded, ho, hk, e]
/-- frames: so many slots, nothing deferred, what is kept -/
def Fr (N : Nat) (keep : List (Nat × Value)) (a : Act) : Prop := a.tmps.size = N ∧ a.defers = [] ∧ ∀ p ∈ keep, a.eval (.tmp p.1) = p.2
def clearB (N : Nat) (ks : List Nat) (d : Nat) : Bool := decide (d < N) && ks.all fun p => decide (p ≠ d)
theorem Fr.put {N : Nat} {keep : List (Nat × Value)} {a : Act} (h : Fr N keep a) (d : Nat) (v : Value) (hd : clearB N (keep.map (·.1)) d = true) : Fr N ((d, v) :: keep) (a.put (some d) v) := by
  simp only [clearB, Bool.and_eq_true, decide_eq_true_eq, List.all_eq_true] at hd
  refine ⟨by rw [size_put]; exact h.1, h.2.1, fun p hp => ?_⟩
  rcases List.mem_cons.1 hp with rfl | hp
  · exact eval_put_same _ _ _ (by rw [h.1]; exact hd.1)
  · rw [eval_put_other _ _ _ _ (hd.2 p.1 (List.mem_map.2 ⟨p, hp, rfl⟩))]; exact h.2.2 p hp
theorem Fr.drop {N : Nat} {p : Nat × Value} {keep : List (Nat × Value)} {a : Act} (h : Fr N (p :: keep) a) : Fr N keep a := ⟨h.1, h.2.1, fun q hq => h.2.2 q (List.mem_cons_of_mem _ hq)⟩
theorem Fr.only {N : Nat} {keep keep' : List (Nat × Value)} {a : Act} (h : Fr N keep a) (hs : ∀ p ∈ keep', p ∈ keep) : Fr N keep' a := ⟨h.1, h.2.1, fun q hq => h.2.2 q (hs q hq)⟩
theorem Fr.at0 {N d : Nat} {v : Value} {keep : List (Nat × Value)} {a : Act} (h : Fr N ((d, v) :: keep) a) : a.eval (.tmp d) = v := h.2.2 (d, v) (List.mem_cons_self ..)
/-- one operation that yields a value; the frame by what is kept -/
theorem st_val {o : Oper} {rest : List Oper} {a : Act} {w w' : World} {N d : Nat} {v : Value} {keep : List (Nat × Value)} (hF : Fr N keep a) (hg : o.guard = none) (hd : o.dst = some d) (hc : clearB N (keep.map (·.1)) d = true)
    (hr : (execOp a.eval o).run P w = .ok (.value v) w') (h : ∀ a', Fr N ((d, v) :: keep) a' → wpList P ops Q rest a' w') : wpList P ops Q (o :: rest) a w :=
  wpList_val (wanted_none hg) hd hr (h _ (hF.put d v hc))
theorem st_yes {o : Oper} {rest : List Oper} {a : Act} {w w' : World} {N d k g : Nat} {bv : Bool} {v : Value} {keep : List (Nat × Value)} (hF : Fr N keep a) (hg : o.guard = some (k, bv)) (hk : (ops[k]?).bind (·.dst) = some g) (hgv : a.eval (.tmp g) = .bool bv) (hgN : g < N) (hd : o.dst = some d) (hc : clearB N (keep.map (·.1)) d = true)
    (hr : (execOp a.eval o).run P w = .ok (.value v) w') (h : ∀ a', Fr N ((d, v) :: keep) a' → wpList P ops Q rest a' w') : wpList P ops Q (o :: rest) a w :=
  wpList_val (wanted_of hgv (by rw [hF.1]; exact hgN) hg hk) hd hr (h _ (hF.put d v hc))
theorem st_no {o : Oper} {rest : List Oper} {a : Act} {w : World} {N d k g : Nat} {bv : Bool} {keep : List (Nat × Value)} (hF : Fr N keep a) (hg : o.guard = some (k, bv)) (hk : (ops[k]?).bind (·.dst) = some g) (hgv : a.eval (.tmp g) = .bool (!bv)) (hgN : g < N) (hd : o.dst = some d) (hc : clearB N (keep.map (·.1)) d = true)
    (h : ∀ a', Fr N ((d, undef) :: keep) a' → wpList P ops Q rest a' w) : wpList P ops Q (o :: rest) a w :=
  wpList_not (wanted_no hgv (by rw [hF.1]; exact hgN) hg hk) hd (h _ (hF.put d undef hc))
theorem st_move {o : Oper} {rest : List Oper} {a : Act} {w : World} {N d s : Nat} {v : Value} {keep : List (Nat × Value)} (hF : Fr N ((s, v) :: keep) a) (hp : o.op = .move (.tmp s) ∨ o.op = .assign (.tmp s)) (hg : o.guard = none) (hd : o.dst = some d) (hc : clearB N (keep.map (·.1)) d = true)
    (h : ∀ a', Fr N ((d, v) :: keep) a' → wpList P ops Q rest a' w) : wpList P ops Q (o :: rest) a w := by
  refine st_val hF.drop hg hd hc ?_ h
  unfold execOp
  rcases hp with hp | hp <;> (rw [hp]; simp only [hF.at0, Sem.run_pure])
theorem run_v {m : Sem Value} {w w' : World} {v : Value} (h : m.run P w = .ok v w') : (do pure (Next.value (← m)) : Sem Next).run P w = .ok (.value v) w' := by
  simp only [Sem.run_bind, h, Result.andThen_ok, Sem.run_pure]
end

section
variable {P : Program} {ops : Array Oper} {Q : Exit → Act → World → Prop}

theorem link_and {rest : List Oper} {a : Act} {w : World} {N i B1 B2 T S : Nat} {κ : IntKind} {x y : Int} {b : Bool} {k g s1 s2 s3 s4 s5 s6 : Nat} {o1 o2 o3 o4 o5 o6 : Oper} {U : TypeId}
    (hfa : ∀ B, (Instr.fieldAt S (.pointer (some ⟨B, 0, none⟩)) i).run P w = .ok (.pointer (some ⟨B, i, none⟩)) w)
    (hld : ∀ B v, w.cell? ⟨B, i, none⟩ = some (.int κ v) → (Instr.loadAt T (.pointer (some ⟨B, i, none⟩))).run P w = .ok (.int κ v) w)
    (hcmp : ∀ X Y : Operand, (do eqGuard .eql T X Y (.int κ x) (.int κ y); binOp .eql T (.int κ x) (.int κ y)).run P w = .ok (.bool (x == y)) w)
    (c1 : w.cell? ⟨B1, i, none⟩ = some (.int κ x)) (c2 : w.cell? ⟨B2, i, none⟩ = some (.int κ y))
    (hF : Fr N [(g, .bool b), (2, .pointer (some ⟨B1, 0, none⟩)), (3, .pointer (some ⟨B2, 0, none⟩))] a)
    (p1 : o1.op = .fieldAddr S (.tmp 2) i) (p2 : o2.op = .load T (.tmp s1)) (p3 : o3.op = .fieldAddr S (.tmp 3) i) (p4 : o4.op = .load T (.tmp s3)) (p5 : o5.op = .binOp .eql T (.tmp s2) (.tmp s4) U) (p6 : o6.op = .pick (.tmp g) (.tmp s5) (.const (.bool false)))
    (q1 : o1.dst = some s1) (q2 : o2.dst = some s2) (q3 : o3.dst = some s3) (q4 : o4.dst = some s4) (q5 : o5.dst = some s5) (q6 : o6.dst = some s6)
    (r1 : o1.guard = some (k, true)) (r2 : o2.guard = some (k, true)) (r3 : o3.guard = some (k, true)) (r4 : o4.guard = some (k, true)) (r5 : o5.guard = some (k, true)) (r6 : o6.guard = none)
    (hk : (ops[k]?).bind (·.dst) = some g) (lg : g < N) (k1 : clearB N [g, 2, 3] s1 = true) (k2 : clearB N [s1, g, 2, 3] s2 = true) (k3 : clearB N [s2, s1, g, 2, 3] s3 = true) (k4 : clearB N [s3, s2, s1, g, 2, 3] s4 = true) (k5 : clearB N [s4, s3, s2, s1, g, 2, 3] s5 = true) (k6 : clearB N [s5, s4, s3, s2, s1, g, 2, 3] s6 = true)
    (h : ∀ a', Fr N [(s6, .bool (b && (x == y))), (2, .pointer (some ⟨B1, 0, none⟩)), (3, .pointer (some ⟨B2, 0, none⟩))] a' → wpList P ops Q rest a' w) : wpList P ops Q (o1 :: o2 :: o3 :: o4 :: o5 :: o6 :: rest) a w := by
  cases b with
  | true =>
    refine st_yes hF r1 hk hF.at0 lg q1 k1 (v := .pointer (some ⟨B1, i, none⟩)) (w' := w) ?_ fun A1 H1 => ?_
    · unfold execOp; rw [p1]; simp only [hF.drop.at0]; exact run_v (hfa B1)
    refine st_yes H1 r2 hk H1.drop.at0 lg q2 k2 (v := .int κ x) (w' := w) ?_ fun A2 H2 => ?_
    · unfold execOp; rw [p2]; simp only [H1.at0]; exact run_v (hld B1 x c1)
    refine st_yes H2 r3 hk H2.drop.drop.at0 lg q3 k3 (v := .pointer (some ⟨B2, i, none⟩)) (w' := w) ?_ fun A3 H3 => ?_
    · unfold execOp; rw [p3]; simp only [H2.drop.drop.drop.drop.at0]; exact run_v (hfa B2)
    refine st_yes H3 r4 hk H3.drop.drop.drop.at0 lg q4 k4 (v := .int κ y) (w' := w) ?_ fun A4 H4 => ?_
    · unfold execOp; rw [p4]; simp only [H3.at0]; exact run_v (hld B2 y c2)
    refine st_yes H4 r5 hk H4.drop.drop.drop.drop.at0 lg q5 k5 (v := .bool (x == y)) (w' := w) ?_ fun A5 H5 => ?_
    · unfold execOp; rw [p5]; simp only [H4.at0, H4.drop.drop.at0]; exact run_v (hcmp _ _)
    refine st_val H5 r6 q6 k6 (v := .bool (true && (x == y))) (w' := w) ?_ fun A6 H6 => ?_
    · unfold execOp; rw [p6]; simp only [H5.at0, H5.drop.drop.drop.drop.drop.at0, BigFrame.eval_const]; simp [asBool]
    exact h A6 (H6.only (by intro p hp; simp only [List.mem_cons, List.not_mem_nil, or_false] at hp ⊢; rcases hp with rfl | rfl | rfl <;> simp))
  | false =>
    refine st_no hF r1 hk hF.at0 lg q1 k1 fun A1 H1 => ?_
    refine st_no H1 r2 hk H1.drop.at0 lg q2 k2 fun A2 H2 => ?_
    refine st_no H2 r3 hk H2.drop.drop.at0 lg q3 k3 fun A3 H3 => ?_
    refine st_no H3 r4 hk H3.drop.drop.drop.at0 lg q4 k4 fun A4 H4 => ?_
    refine st_no H4 r5 hk H4.drop.drop.drop.drop.at0 lg q5 k5 fun A5 H5 => ?_
    refine st_val H5 r6 q6 k6 (v := .bool (false && (x == y))) (w' := w) ?_ fun A6 H6 => ?_
    · unfold execOp; rw [p6]; simp only [H5.drop.drop.drop.drop.drop.at0, BigFrame.eval_const]; simp [asBool]
    exact h A6 (H6.only (by intro p hp; simp only [List.mem_cons, List.not_mem_nil, or_false] at hp ⊢; rcases hp with rfl | rfl | rfl <;> simp))
theorem link_or {rest : List Oper} {a : Act} {w : World} {N i B1 B2 T S : Nat} {κ : IntKind} {x y : Int} {b : Bool} {k g s1 s2 s3 s4 s5 s6 : Nat} {o1 o2 o3 o4 o5 o6 : Oper} {U : TypeId}
    (hfa : ∀ B, (Instr.fieldAt S (.pointer (some ⟨B, 0, none⟩)) i).run P w = .ok (.pointer (some ⟨B, i, none⟩)) w)
    (hld : ∀ B v, w.cell? ⟨B, i, none⟩ = some (.int κ v) → (Instr.loadAt T (.pointer (some ⟨B, i, none⟩))).run P w = .ok (.int κ v) w)
    (hcmp : ∀ X Y : Operand, (do eqGuard .neq T X Y (.int κ x) (.int κ y); binOp .neq T (.int κ x) (.int κ y)).run P w = .ok (.bool (x != y)) w)
    (c1 : w.cell? ⟨B1, i, none⟩ = some (.int κ x)) (c2 : w.cell? ⟨B2, i, none⟩ = some (.int κ y))
    (hF : Fr N [(g, .bool b), (2, .pointer (some ⟨B1, 0, none⟩)), (3, .pointer (some ⟨B2, 0, none⟩))] a)
    (p1 : o1.op = .fieldAddr S (.tmp 2) i) (p2 : o2.op = .load T (.tmp s1)) (p3 : o3.op = .fieldAddr S (.tmp 3) i) (p4 : o4.op = .load T (.tmp s3)) (p5 : o5.op = .binOp .neq T (.tmp s2) (.tmp s4) U) (p6 : o6.op = .pick (.tmp g) (.const (.bool true)) (.tmp s5))
    (q1 : o1.dst = some s1) (q2 : o2.dst = some s2) (q3 : o3.dst = some s3) (q4 : o4.dst = some s4) (q5 : o5.dst = some s5) (q6 : o6.dst = some s6)
    (r1 : o1.guard = some (k, false)) (r2 : o2.guard = some (k, false)) (r3 : o3.guard = some (k, false)) (r4 : o4.guard = some (k, false)) (r5 : o5.guard = some (k, false)) (r6 : o6.guard = none)
    (hk : (ops[k]?).bind (·.dst) = some g) (lg : g < N) (k1 : clearB N [g, 2, 3] s1 = true) (k2 : clearB N [s1, g, 2, 3] s2 = true) (k3 : clearB N [s2, s1, g, 2, 3] s3 = true) (k4 : clearB N [s3, s2, s1, g, 2, 3] s4 = true) (k5 : clearB N [s4, s3, s2, s1, g, 2, 3] s5 = true) (k6 : clearB N [s5, s4, s3, s2, s1, g, 2, 3] s6 = true)
    (h : ∀ a', Fr N [(s6, .bool (b || (x != y))), (2, .pointer (some ⟨B1, 0, none⟩)), (3, .pointer (some ⟨B2, 0, none⟩))] a' → wpList P ops Q rest a' w) : wpList P ops Q (o1 :: o2 :: o3 :: o4 :: o5 :: o6 :: rest) a w := by
  cases b with
  | false =>
    refine st_yes hF r1 hk hF.at0 lg q1 k1 (v := .pointer (some ⟨B1, i, none⟩)) (w' := w) ?_ fun A1 H1 => ?_
    · unfold execOp; rw [p1]; simp only [hF.drop.at0]; exact run_v (hfa B1)
    refine st_yes H1 r2 hk H1.drop.at0 lg q2 k2 (v := .int κ x) (w' := w) ?_ fun A2 H2 => ?_
    · unfold execOp; rw [p2]; simp only [H1.at0]; exact run_v (hld B1 x c1)
    refine st_yes H2 r3 hk H2.drop.drop.at0 lg q3 k3 (v := .pointer (some ⟨B2, i, none⟩)) (w' := w) ?_ fun A3 H3 => ?_
    · unfold execOp; rw [p3]; simp only [H2.drop.drop.drop.drop.at0]; exact run_v (hfa B2)
    refine st_yes H3 r4 hk H3.drop.drop.drop.at0 lg q4 k4 (v := .int κ y) (w' := w) ?_ fun A4 H4 => ?_
    · unfold execOp; rw [p4]; simp only [H3.at0]; exact run_v (hld B2 y c2)
    refine st_yes H4 r5 hk H4.drop.drop.drop.drop.at0 lg q5 k5 (v := .bool (x != y)) (w' := w) ?_ fun A5 H5 => ?_
    · unfold execOp; rw [p5]; simp only [H4.at0, H4.drop.drop.at0]; exact run_v (hcmp _ _)
    refine st_val H5 r6 q6 k6 (v := .bool (false || (x != y))) (w' := w) ?_ fun A6 H6 => ?_
    · unfold execOp; rw [p6]; simp only [H5.at0, H5.drop.drop.drop.drop.drop.at0, BigFrame.eval_const]; simp [asBool]
    exact h A6 (H6.only (by intro p hp; simp only [List.mem_cons, List.not_mem_nil, or_false] at hp ⊢; rcases hp with rfl | rfl | rfl <;> simp))
  | true =>
    refine st_no hF r1 hk hF.at0 lg q1 k1 fun A1 H1 => ?_
    refine st_no H1 r2 hk H1.drop.at0 lg q2 k2 fun A2 H2 => ?_
    refine st_no H2 r3 hk H2.drop.drop.at0 lg q3 k3 fun A3 H3 => ?_
    refine st_no H3 r4 hk H3.drop.drop.drop.at0 lg q4 k4 fun A4 H4 => ?_
    refine st_no H4 r5 hk H4.drop.drop.drop.drop.at0 lg q5 k5 fun A5 H5 => ?_
    refine st_val H5 r6 q6 k6 (v := .bool (true || (x != y))) (w' := w) ?_ fun A6 H6 => ?_
    · unfold execOp; rw [p6]; simp only [H5.drop.drop.drop.drop.drop.at0, BigFrame.eval_const]; simp [asBool]
    exact h A6 (H6.only (by intro p hp; simp only [List.mem_cons, List.not_mem_nil, or_false] at hp ⊢; rcases hp with rfl | rfl | rfl <;> simp))
theorem first_eq {rest : List Oper} {a : Act} {w : World} {N i B1 B2 T S : Nat} {κ : IntKind} {x y : Int} {s1 s2 s3 s4 s5 : Nat} {o1 o2 o3 o4 o5 : Oper} {U : TypeId}
    (hfa : ∀ B, (Instr.fieldAt S (.pointer (some ⟨B, 0, none⟩)) i).run P w = .ok (.pointer (some ⟨B, i, none⟩)) w)
    (hld : ∀ B v, w.cell? ⟨B, i, none⟩ = some (.int κ v) → (Instr.loadAt T (.pointer (some ⟨B, i, none⟩))).run P w = .ok (.int κ v) w)
    (hcmp : ∀ X Y : Operand, (do eqGuard .eql T X Y (.int κ x) (.int κ y); binOp .eql T (.int κ x) (.int κ y)).run P w = .ok (.bool (x == y)) w)
    (c1 : w.cell? ⟨B1, i, none⟩ = some (.int κ x)) (c2 : w.cell? ⟨B2, i, none⟩ = some (.int κ y))
    (hF : Fr N [(2, .pointer (some ⟨B1, 0, none⟩)), (3, .pointer (some ⟨B2, 0, none⟩))] a)
    (p1 : o1.op = .fieldAddr S (.tmp 2) i) (p2 : o2.op = .load T (.tmp s1)) (p3 : o3.op = .fieldAddr S (.tmp 3) i) (p4 : o4.op = .load T (.tmp s3)) (p5 : o5.op = .binOp .eql T (.tmp s2) (.tmp s4) U)
    (q1 : o1.dst = some s1) (q2 : o2.dst = some s2) (q3 : o3.dst = some s3) (q4 : o4.dst = some s4) (q5 : o5.dst = some s5)
    (r1 : o1.guard = none) (r2 : o2.guard = none) (r3 : o3.guard = none) (r4 : o4.guard = none) (r5 : o5.guard = none)
    (k1 : clearB N [2, 3] s1 = true) (k2 : clearB N [s1, 2, 3] s2 = true) (k3 : clearB N [s2, s1, 2, 3] s3 = true) (k4 : clearB N [s3, s2, s1, 2, 3] s4 = true) (k5 : clearB N [s4, s3, s2, s1, 2, 3] s5 = true)
    (h : ∀ a', Fr N [(s5, .bool (x == y)), (2, .pointer (some ⟨B1, 0, none⟩)), (3, .pointer (some ⟨B2, 0, none⟩))] a' → wpList P ops Q rest a' w) : wpList P ops Q (o1 :: o2 :: o3 :: o4 :: o5 :: rest) a w := by
  refine st_val hF r1 q1 k1 (v := .pointer (some ⟨B1, i, none⟩)) (w' := w) ?_ fun A1 H1 => ?_
  · unfold execOp; rw [p1]; simp only [hF.at0]; exact run_v (hfa B1)
  refine st_val H1 r2 q2 k2 (v := .int κ x) (w' := w) ?_ fun A2 H2 => ?_
  · unfold execOp; rw [p2]; simp only [H1.at0]; exact run_v (hld B1 x c1)
  refine st_val H2 r3 q3 k3 (v := .pointer (some ⟨B2, i, none⟩)) (w' := w) ?_ fun A3 H3 => ?_
  · unfold execOp; rw [p3]; simp only [H2.drop.drop.drop.at0]; exact run_v (hfa B2)
  refine st_val H3 r4 q4 k4 (v := .int κ y) (w' := w) ?_ fun A4 H4 => ?_
  · unfold execOp; rw [p4]; simp only [H3.at0]; exact run_v (hld B2 y c2)
  refine st_val H4 r5 q5 k5 (v := .bool (x == y)) (w' := w) ?_ fun A5 H5 => ?_
  · unfold execOp; rw [p5]; simp only [H4.at0, H4.drop.drop.at0]; exact run_v (hcmp _ _)
  exact h A5 (H5.only (by intro p hp; simp only [List.mem_cons, List.not_mem_nil, or_false] at hp ⊢; rcases hp with rfl | rfl | rfl <;> simp))
theorem first_ne {rest : List Oper} {a : Act} {w : World} {N i B1 B2 T S : Nat} {κ : IntKind} {x y : Int} {s1 s2 s3 s4 s5 : Nat} {o1 o2 o3 o4 o5 : Oper} {U : TypeId}
    (hfa : ∀ B, (Instr.fieldAt S (.pointer (some ⟨B, 0, none⟩)) i).run P w = .ok (.pointer (some ⟨B, i, none⟩)) w)
    (hld : ∀ B v, w.cell? ⟨B, i, none⟩ = some (.int κ v) → (Instr.loadAt T (.pointer (some ⟨B, i, none⟩))).run P w = .ok (.int κ v) w)
    (hcmp : ∀ X Y : Operand, (do eqGuard .neq T X Y (.int κ x) (.int κ y); binOp .neq T (.int κ x) (.int κ y)).run P w = .ok (.bool (x != y)) w)
    (c1 : w.cell? ⟨B1, i, none⟩ = some (.int κ x)) (c2 : w.cell? ⟨B2, i, none⟩ = some (.int κ y))
    (hF : Fr N [(2, .pointer (some ⟨B1, 0, none⟩)), (3, .pointer (some ⟨B2, 0, none⟩))] a)
    (p1 : o1.op = .fieldAddr S (.tmp 2) i) (p2 : o2.op = .load T (.tmp s1)) (p3 : o3.op = .fieldAddr S (.tmp 3) i) (p4 : o4.op = .load T (.tmp s3)) (p5 : o5.op = .binOp .neq T (.tmp s2) (.tmp s4) U)
    (q1 : o1.dst = some s1) (q2 : o2.dst = some s2) (q3 : o3.dst = some s3) (q4 : o4.dst = some s4) (q5 : o5.dst = some s5)
    (r1 : o1.guard = none) (r2 : o2.guard = none) (r3 : o3.guard = none) (r4 : o4.guard = none) (r5 : o5.guard = none)
    (k1 : clearB N [2, 3] s1 = true) (k2 : clearB N [s1, 2, 3] s2 = true) (k3 : clearB N [s2, s1, 2, 3] s3 = true) (k4 : clearB N [s3, s2, s1, 2, 3] s4 = true) (k5 : clearB N [s4, s3, s2, s1, 2, 3] s5 = true)
    (h : ∀ a', Fr N [(s5, .bool (x != y)), (2, .pointer (some ⟨B1, 0, none⟩)), (3, .pointer (some ⟨B2, 0, none⟩))] a' → wpList P ops Q rest a' w) : wpList P ops Q (o1 :: o2 :: o3 :: o4 :: o5 :: rest) a w := by
  refine st_val hF r1 q1 k1 (v := .pointer (some ⟨B1, i, none⟩)) (w' := w) ?_ fun A1 H1 => ?_
  · unfold execOp; rw [p1]; simp only [hF.at0]; exact run_v (hfa B1)
  refine st_val H1 r2 q2 k2 (v := .int κ x) (w' := w) ?_ fun A2 H2 => ?_
  · unfold execOp; rw [p2]; simp only [H1.at0]; exact run_v (hld B1 x c1)
  refine st_val H2 r3 q3 k3 (v := .pointer (some ⟨B2, i, none⟩)) (w' := w) ?_ fun A3 H3 => ?_
  · unfold execOp; rw [p3]; simp only [H2.drop.drop.drop.at0]; exact run_v (hfa B2)
  refine st_val H3 r4 q4 k4 (v := .int κ y) (w' := w) ?_ fun A4 H4 => ?_
  · unfold execOp; rw [p4]; simp only [H3.at0]; exact run_v (hld B2 y c2)
  refine st_val H4 r5 q5 k5 (v := .bool (x != y)) (w' := w) ?_ fun A5 H5 => ?_
  · unfold execOp; rw [p5]; simp only [H4.at0, H4.drop.drop.at0]; exact run_v (hcmp _ _)
  exact h A5 (H5.only (by intro p hp; simp only [List.mem_cons, List.not_mem_nil, or_false] at hp ⊢; rcases hp with rfl | rfl | rfl <;> simp))
end
end Go.Proofs.Ytifdkpifambhaaa.Ord
