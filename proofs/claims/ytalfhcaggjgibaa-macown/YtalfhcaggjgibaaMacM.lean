/-
  The document's seal of parts.
  Conditions: the numbers lie within their kinds, the cells hold them, the parts' bytes are not too many.
-/
import Derived.Test.YtalfhcaggjgibaaMacL
import Derived.Test.YtalfhcaggjgibaaOrders2
namespace Go.Proofs.Ytalfhcaggjgibaa.Mac
open Go.ChangeShapes Go.WideShapes Go.ChangeAt Go.RowKit
set_option linter.unusedVariables false

/-- a key is read whole -/
theorem loadkey {a : Act} {o : Oper} {w : World} {g : Nat} {kz : List Int} (h : Key kz) (x : Operand) (ho : o.op = .load 23 x) (hx : a.eval x = .pointer (some ⟨g, 0, none⟩)) (hc : Kc w g kz) :
    (execOp a.eval o).run Try.prog w = .ok (.value (keyv kz)) w := by
  obtain ⟨k0, k1, k2, k3, k4, k5, k6, k7, k8, k9, k10, k11, k12, k13, k14, k15, rfl, hk⟩ := key16 kz h
  rw [hk]
  have c0 : w.cell? ⟨g, 0, none⟩ = some (.int .u8 k0) := hc 0 (by decide)
  have c1 : w.cell? ⟨g, 1, none⟩ = some (.int .u8 k1) := hc 1 (by decide)
  have c2 : w.cell? ⟨g, 2, none⟩ = some (.int .u8 k2) := hc 2 (by decide)
  have c3 : w.cell? ⟨g, 3, none⟩ = some (.int .u8 k3) := hc 3 (by decide)
  have c4 : w.cell? ⟨g, 4, none⟩ = some (.int .u8 k4) := hc 4 (by decide)
  have c5 : w.cell? ⟨g, 5, none⟩ = some (.int .u8 k5) := hc 5 (by decide)
  have c6 : w.cell? ⟨g, 6, none⟩ = some (.int .u8 k6) := hc 6 (by decide)
  have c7 : w.cell? ⟨g, 7, none⟩ = some (.int .u8 k7) := hc 7 (by decide)
  have c8 : w.cell? ⟨g, 8, none⟩ = some (.int .u8 k8) := hc 8 (by decide)
  have c9 : w.cell? ⟨g, 9, none⟩ = some (.int .u8 k9) := hc 9 (by decide)
  have c10 : w.cell? ⟨g, 10, none⟩ = some (.int .u8 k10) := hc 10 (by decide)
  have c11 : w.cell? ⟨g, 11, none⟩ = some (.int .u8 k11) := hc 11 (by decide)
  have c12 : w.cell? ⟨g, 12, none⟩ = some (.int .u8 k12) := hc 12 (by decide)
  have c13 : w.cell? ⟨g, 13, none⟩ = some (.int .u8 k13) := hc 13 (by decide)
  have c14 : w.cell? ⟨g, 14, none⟩ = some (.int .u8 k14) := hc 14 (by decide)
  have c15 : w.cell? ⟨g, 15, none⟩ = some (.int .u8 k15) := hc 15 (by decide)
  unfold execOp
  rw [ho]
  simp only [hx]
  go_simp
section
variable {a : Act} {o : Oper} {w : World}
theorem e_row {v : Value} (x : Operand) (hv : a.eval x = v) (ho : o.op = .call { callee := .value (.func 12), args := #[x], argTypes := #[29] }) : (execOp a.eval o).run Try.prog w = .ok (.enter 12 #[v]) w := by
  unfold execOp
  rw [ho]
  go_simp
  cases x <;> simpa [Act.eval] using hv
theorem e_rbytes {u v : Value} (x y : Operand) (hu : a.eval x = u) (hv : a.eval y = v) (ho : o.op = .call { callee := .value (.func 8), args := #[x, y], argTypes := #[23, 24] }) : (execOp a.eval o).run Try.prog w = .ok (.enter 8 #[u, v]) w := by
  unfold execOp
  rw [ho]
  go_simp
  exact ⟨by cases x <;> simpa [Act.eval] using hu, by cases y <;> simpa [Act.eval] using hv⟩
end
/-- what the document's Sum leaves, step by step -/
def EsR (kz : List Int) (pa : Option Addr) (n pcap : Nat) (zs : List Int) : List (Value → World → Prop) :=
  [fun v _ => v = keyv kz, fun v _ => v = .slice pa n pcap, fun v w => ∃ a cap, v = .slice a zs.length cap ∧ Row w a zs.length zs, fun v _ => v = .int .u64 (sip kz zs), fun v _ => v = .int .u64 (sip kz zs)]
theorem staysR (kz : List Int) (pa : Option Addr) (n pcap : Nat) (zs : List Int) : ∀ j, Ord.Stays (Ord.fact (EsR kz pa n pcap zs) j) := fun j => match j with
  | 0 => Ord.stays_eq _
  | 1 => Ord.stays_eq _
  | 2 => fun v w w' hb ⟨a, cap, h1, h2⟩ => ⟨a, cap, h1, h2.later hb⟩
  | 3 => Ord.stays_eq _
  | 4 => Ord.stays_eq _
  | _ + 5 => fun _ _ _ _ h => h

theorem rsums (w : World) (kz : List Int) (h : Key kz) (pa : Option Addr) (n pcap : Nat) (ps : List (Option Addr × Nat × Nat × List Int)) (hp : Parts w pa n ps) (hq : ∀ p ∈ ps, p.1 = none → p.2.1 = 0 ∧ p.2.2.1 = 0) (hn : (rowOf (bytesOf ps)).length ≤ 70368744177664) :
    Calls Try.prog 11 #[keyv kz, .slice pa n pcap] w fun e w' => e = .returned (.int .u64 (sip kz (rowOf (bytesOf ps)))) ∧ Below w.heap.size w w' := by
  have hb := rowOf_bytes ps (fun p hp' => (hp.2.2.1 p hp').2.1)
  have K0 := hidden (Kc.new w kz h 23)
  have B0 := hidden ((Below.refl w.heap.size w).alloc (Nat.le_refl _) (.cells ⟨kz.map (.int .u8)⟩ 23))
  have S0 := hidden (size_alloc w (.cells ⟨kz.map (.int .u8)⟩ 23))
  unfold keyv
  go_enter Try.func11, Try.ntmps11
  go_wp2_with fail
  refine Ord.wp_region_slots (by kernel_rfl) 9 [(1, .slice pa n pcap), (2, .pointer (some ⟨w.heap.size, 0, none⟩))] [5, 6, 7, 8, 4] (EsR kz pa n pcap (rowOf (bytesOf ps))) (w.alloc (.cells ⟨kz.map (.int .u8)⟩ 23)).drew (by kernel_rfl) (by kernel_rfl) (by kernel_rfl) rfl (staysR kz pa n pcap (rowOf (bytesOf ps))) ?_ ?_ ?_
  case refine_3 => exact ⟨rfl, rfl, (fun p hp => by simp only [List.mem_cons, List.not_mem_nil, or_false] at hp; rcases hp with rfl | rfl <;> rfl), Below.refl _ _⟩
  case refine_2 =>
    intro a w' hG hF
    obtain ⟨g1, g2, g3, g4⟩ := hG
    have h4 : a.eval (.tmp 4) = .int .u64 (sip kz (rowOf (bytesOf ps))) := hF 4 (by decide)
    have h4' : a.tmps[4]?.getD undef = .int .u64 (sip kz (rowOf (bytesOf ps))) := by simpa [Act.eval] using h4
    rename_i hKK
    refine hKK a w' ?_
    refine wp_ret ?_
    refine bodyPost_ret (v := .int .u64 (sip kz (rowOf (bytesOf ps)))) ?_ g2 ⟨rfl, B0.out.trans (Below.mono ⟨g4.os, g4.tape, g4.output, g4.size, g4.block⟩ (by show w.heap.size ≤ (w.alloc _).heap.size; rw [S0.out]; omega))⟩
    simp [results, Try.results11, go_sem, h4']
  case refine_1 =>
    intro i o a w' ho hG hdep
    obtain ⟨g1, g2, g3, g4⟩ := hG
    have bw : Below w.heap.size w w' := B0.out.trans (Below.mono ⟨g4.os, g4.tape, g4.output, g4.size, g4.block⟩ (by show w.heap.size ≤ (w.alloc _).heap.size; rw [S0.out]; omega))
    match i, ho with
    | 0, ho =>
      cases ho
      have hk : Kc w' w.heap.size kz := Kc.below K0.out (n := w.heap.size + 1) ⟨g4.os, g4.tape, g4.output, g4.size, fun k hk => g4.block k (by show k < (w.alloc _).heap.size; rw [S0.out]; exact hk)⟩ (by omega)
      exact Ord.by_value rfl rfl (loadkey h _ rfl (g3 (2, .pointer (some ⟨w.heap.size, 0, none⟩)) (by simp)) hk) (Below.refl _ _) rfl
    | 1, ho =>
      cases ho
      exact Ord.by_value rfl rfl (v := a.eval (.tmp 1)) rfl (Below.refl _ _) (g3 (1, .slice pa n pcap) (by simp))
    | 2, ho =>
      cases ho
      have da : a.eval (.tmp 6) = .slice pa n pcap := hdep ⟨1, .data⟩ (by simp) rfl
      refine Ord.by_call rfl rfl (e_row _ da rfl) ((rrow w' pa n pcap ps (hp.later bw) hq hn).mono ?_)
      rintro e w3 ⟨v, rfl, hv, hb3⟩
      obtain ⟨a', cap', rfl, hrow, _⟩ := row_own hv hb (by omega)
      exact ⟨_, rfl, hb3, a', cap', rfl, hrow⟩
    | 3, ho =>
      cases ho
      have da : a.eval (.tmp 5) = keyv kz := hdep ⟨0, .data⟩ (by simp) rfl
      obtain ⟨a', cap', db, hrow⟩ : ∃ a' cap', a.eval (.tmp 7) = .slice a' (rowOf (bytesOf ps)).length cap' ∧ Row w' a' (rowOf (bytesOf ps)).length (rowOf (bytesOf ps)) := hdep ⟨2, .data⟩ (by simp) rfl
      refine Ord.by_call rfl rfl (e_rbytes _ _ da db rfl) ((rbytes w' kz h a' _ cap' _ hrow).mono ?_)
      rintro e w3 ⟨rfl, hb3⟩
      exact ⟨_, rfl, hb3, rfl⟩
    | 4, ho =>
      cases ho
      have da : a.eval (.tmp 8) = .int .u64 (sip kz (rowOf (bytesOf ps))) := hdep ⟨3, .data⟩ (by simp) rfl
      exact Ord.by_value rfl rfl (v := a.eval (.tmp 8)) rfl (Below.refl _ _) da
end Go.Proofs.Ytalfhcaggjgibaa.Mac
