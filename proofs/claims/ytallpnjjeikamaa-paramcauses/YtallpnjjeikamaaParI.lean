/-
  Four causes in one list: what the steps of such a statement leave.
  Conditions: as at each lemma.
-/
import Derived.Test.YtallpnjjeikamaaParH
import Derived.Test.YtallpnjjeikamaaParF
import Derived.Test.YtallpnjjeikamaaOrders2
namespace Go.Proofs.Ytallpnjjeikamaa.Par
open Go.ChangeShapes Go.WideShapes Go.ChangeAt Go.RowKit
set_option linter.unusedVariables false

def cells4 (p0 p1 p2 p3 : Prm) : Array Value := #[.int .u16 p0.1, .slice p0.2.1 p0.2.2.1 p0.2.2.2.1, .int .u16 p1.1, .slice p1.2.1 p1.2.2.1 p1.2.2.2.1, .int .u16 p2.1, .slice p2.2.1 p2.2.2.1 p2.2.2.2.1, .int .u16 p3.1, .slice p3.2.1 p3.2.2.1 p3.2.2.2.1]
theorem four_prms (w : World) (p0 p1 p2 p3 : Prm) (h0 : One 0 w p0) (h1 : One 0 w p1) (h2 : One 0 w p2) (h3 : One 0 w p3) : Prms 0 (w.alloc (.cells (cells4 p0 p1 p2 p3) 45)) (some ⟨w.heap.size, 0, none⟩) 4 [p0, p1, p2, p3] := by
  have hb : Below w.heap.size w (w.alloc (.cells (cells4 p0 p1 p2 p3) 45)) := (Below.refl _ _).alloc (Nat.le_refl _) _
  refine ⟨rfl, by decide, ?_, .inr ⟨_, _, rfl, Nat.zero_le _, ?_⟩⟩
  · intro p hp
    simp only [List.mem_cons, List.not_mem_nil, or_false] at hp
    rcases hp with rfl | rfl | rfl | rfl
    · exact h0.later hb
    · exact h1.later hb
    · exact h2.later hb
    · exact h3.later hb
  · intro j p hj
    rw [World.cell?_alloc_at _ _ _ _ rfl, World.cell?_alloc_at _ _ _ _ rfl]
    match j, hj with
    | 0, hj => cases hj; exact ⟨rfl, rfl⟩
    | 1, hj => cases hj; exact ⟨rfl, rfl⟩
    | 2, hj => cases hj; exact ⟨rfl, rfl⟩
    | 3, hj => cases hj; exact ⟨rfl, rfl⟩
section
variable {a : Act} {o : Oper} {w : World}
theorem load45 {g : Nat} {p : Prm} (x : Operand) (ho : o.op = .load 45 x) (hx : a.eval x = .pointer (some ⟨g, 0, none⟩)) (h0 : w.cell? ⟨g, 0, none⟩ = some (.int .u16 p.1)) (h1 : w.cell? ⟨g, 1, none⟩ = some (.slice p.2.1 p.2.2.1 p.2.2.2.1)) :
    (execOp a.eval o).run Try.prog w = .ok (.value (pv p)) w := by
  unfold execOp
  rw [ho]
  simp only [hx]
  go_simp
  rfl
theorem conv16 {n : Int} (x : Operand) (ho : o.op = .convert 43 39 x) (hx : a.eval x = .int .u32 n) : (execOp a.eval o).run Try.prog w = .ok (.value (.int .u16 (n % 65536))) w := by
  have hw : ∀ x : Int, IntKind.u16.wrap x = x % 65536 := fun _ => rfl
  unfold execOp
  rw [ho]
  simp only [hx]
  go_simp
theorem build4 {p0 p1 p2 p3 : Prm} (x0 x1 x2 x3 : Operand) (ho : o.op = .buildSlice 22 4 #[(0, x0), (1, x1), (2, x2), (3, x3)]) (h0 : a.eval x0 = pv p0) (h1 : a.eval x1 = pv p1) (h2 : a.eval x2 = pv p2) (h3 : a.eval x3 = pv p3) :
    (execOp a.eval o).run Try.prog w = .ok (.value (.slice (some ⟨w.heap.size, 0, none⟩) 4 4)) (w.alloc (.cells (cells4 p0 p1 p2 p3) 45)) := by
  generalize a.eval = ev at *
  unfold execOp
  rw [ho]
  simp only [pv] at h0 h1 h2 h3
  unfold cells4
  go_simp
theorem call1 {v : Value} {t : TypeId} (f : FuncId) (hf : f = 22 ∨ f = 23 ∨ f = 24 ∨ f = 25 ∨ f = 26 ∨ f = 27) (x : Operand) (hv : a.eval x = v) (ho : o.op = .call { callee := .value (.func f), args := #[x], argTypes := #[t] }) : (execOp a.eval o).run Try.prog w = .ok (.enter f #[v]) w := by
  unfold execOp
  rw [ho]
  rcases hf with rfl | rfl | rfl | rfl | rfl | rfl <;>
  · go_simp
    cases x <;> simpa [Act.eval] using hv
end
/-- a parameter that says x -/
def Says (x : Int × List Int) (v : Value) (w : World) : Prop := ∃ p, v = pv p ∧ One 0 w p ∧ val p = x
/-- a list that says l -/
def Lists (n : Nat) (l : List (Int × List Int)) (v : Value) (w : World) : Prop := ∃ b ps, v = .slice (some ⟨b, 0, none⟩) n n ∧ Prms 0 w (some ⟨b, 0, none⟩) n ps ∧ ps.map val = l
theorem stays_says (x : Int × List Int) : Ord.Stays (Says x) := fun v w w' hb ⟨p, h1, h2, h3⟩ => ⟨p, h1, h2.later hb, h3⟩
theorem stays_lists (n : Nat) (l : List (Int × List Int)) : Ord.Stays (Lists n l) := fun v w w' hb ⟨b, ps, h1, h2, h3⟩ => ⟨b, ps, h1, h2.later hb, h3⟩
/-- what the ten steps leave -/
def Es10 (n : Int) (x : Int × List Int) : List (Value → World → Prop) :=
  [Says x, fun v _ => v = .int .u32 n, Says (3, four n), fun v _ => v = .int .u32 n, fun v _ => v = .int .u16 (n % 65536), Says (1, [n % 65536 / 256, n % 65536 % 256] ++ [0, 0]), fun v _ => v = .int .u32 n, Says (9, four n),
   Lists 4 [x, (3, four n), (1, [n % 65536 / 256, n % 65536 % 256] ++ [0, 0]), (9, four n)], Lists 4 [x, (3, four n), (1, [n % 65536 / 256, n % 65536 % 256] ++ [0, 0]), (9, four n)]]
theorem stays10 (n : Int) (x : Int × List Int) : ∀ j, Ord.Stays (Ord.fact (Es10 n x) j) := fun j => match j with
  | 0 => stays_says _
  | 1 => Ord.stays_eq _
  | 2 => stays_says _
  | 3 => Ord.stays_eq _
  | 4 => Ord.stays_eq _
  | 5 => stays_says _
  | 6 => Ord.stays_eq _
  | 7 => stays_says _
  | 8 => stays_lists _ _
  | 9 => stays_lists _ _
  | _ + 10 => fun _ _ _ _ h => h
end Go.Proofs.Ytallpnjjeikamaa.Par
