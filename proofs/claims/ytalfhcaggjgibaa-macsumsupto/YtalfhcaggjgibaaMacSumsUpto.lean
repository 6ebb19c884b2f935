/-
  For every key and every parts (together of at most 1048576 values and letters) the law MacSums returns true: the seal of parts is the document's, that of the row which they make (P4.1, P4.3). Conditions: as the statement's second form has it (the first is false by size: the row that the document makes of parts may be longer than any slice can be).
-/
import Derived.Test.YtalfhcaggjgibaaRows
import Derived.WalkKit
import Derived.ProofKit
import Derived.OpenShut
import Derived.ShutString
import Derived.ChangeOld
import Derived.Below
import Derived.SizedLaws
import Derived.Deep.DeepHandedRow
import Derived.LaidLaws
import Derived.Test.YtalfhcaggjgibaaMacM
namespace Go.Proofs.Ytalfhcaggjgibaa.macSums
open Go.ChangeShapes Go.WideShapes Go.ChangeAt Go.RowKit
set_option linter.unusedVariables false

theorem own : ownKnob Try.prog.godebug = none := by kernel_rfl
theorem laidOut : laidOutB Try.prog = true := by kernel_rfl

section
variable {a : Act} {o : Oper} {w : World}
theorem e_sum {u v : Value} (x y : Operand) (hu : a.eval x = u) (hv : a.eval y = v) (ho : o.op = .call { callee := .value (.func 10), args := #[x, y], argTypes := #[23, 29] }) : (execOp a.eval o).run Try.prog w = .ok (.enter 10 #[u, v]) w := by
  unfold execOp
  rw [ho]
  go_simp
  exact ⟨by cases x <;> simpa [Act.eval] using hu, by cases y <;> simpa [Act.eval] using hv⟩
theorem e_rsum {u v : Value} (x y : Operand) (hu : a.eval x = u) (hv : a.eval y = v) (ho : o.op = .call { callee := .value (.func 11), args := #[x, y], argTypes := #[23, 29] }) : (execOp a.eval o).run Try.prog w = .ok (.enter 11 #[u, v]) w := by
  unfold execOp
  rw [ho]
  go_simp
  exact ⟨by cases x <;> simpa [Act.eval] using hu, by cases y <;> simpa [Act.eval] using hv⟩
theorem e_bytes {u v : Value} (x y : Operand) (hu : a.eval x = u) (hv : a.eval y = v) (ho : o.op = .call { callee := .value (.func 7), args := #[x, y], argTypes := #[23, 24] }) : (execOp a.eval o).run Try.prog w = .ok (.enter 7 #[u, v]) w := by
  unfold execOp
  rw [ho]
  go_simp
  exact ⟨by cases x <;> simpa [Act.eval] using hu, by cases y <;> simpa [Act.eval] using hv⟩
theorem e_awake (ho : o.op = .call { callee := .value (.func 9), args := #[], argTypes := #[] }) : (execOp a.eval o).run Try.prog w = .ok (.enter 9 #[]) w := by
  unfold execOp
  rw [ho]
  go_simp
theorem eqls {p : Int} (x y : Operand) (ho : o.op = .binOp .eql 25 x y 25) (hx : a.eval x = .int .u64 p) (hy : a.eval y = .int .u64 p) : (execOp a.eval o).run Try.prog w = .ok (.value (.bool true)) w := by
  unfold execOp
  rw [ho]
  simp only [hx, hy]
  go_simp
theorem pickT {v : Value} (x y z : Operand) (ho : o.op = .pick x y z) (hx : a.eval x = .bool true) (hy : a.eval y = v) : (execOp a.eval o).run Try.prog w = .ok (.value v) w := by
  unfold execOp
  rw [ho]
  simp [hx, hy, asBool]
end
def Es (k0 : List Int) (a1 : Option Addr) (n1 cap1 : Nat) (zs : List Int) : List (Value → World → Prop) :=
  [fun v _ => v = Mac.keyv k0,
   fun v _ => v = .slice a1 n1 cap1,
   fun v _ => v = .int .u64 (Mac.sip k0 zs),
   fun v _ => v = Mac.keyv k0,
   fun v _ => v = .slice a1 n1 cap1,
   fun v _ => v = .int .u64 (Mac.sip k0 zs),
   fun v _ => v = .bool true,
   fun v _ => v = .bool true,
   fun v _ => v = Mac.keyv k0,
   fun v _ => v = .slice a1 n1 cap1,
   fun v _ => v = .int .u64 (Mac.sip k0 zs),
   fun v _ => v = Mac.keyv k0,
   fun v _ => v = .slice a1 n1 cap1,
   fun v w => ∃ a cap, v = .slice a zs.length cap ∧ Mac.Row w a zs.length zs,
   fun v _ => v = .int .u64 (Mac.sip k0 zs),
   fun v _ => v = .bool true,
   fun v _ => v = .bool true,
   fun v _ => v = .bool true,
   fun v _ => v = .bool true,
   fun v _ => v = .bool true,
   fun v _ => v = .bool true]
theorem stays (k0 : List Int) (a1 : Option Addr) (n1 cap1 : Nat) (zs : List Int) : ∀ j, Ord.Stays (Ord.fact (Es k0 a1 n1 cap1 zs) j) := fun j => match j with
  | 0 => Ord.stays_eq _
  | 1 => Ord.stays_eq _
  | 2 => Ord.stays_eq _
  | 3 => Ord.stays_eq _
  | 4 => Ord.stays_eq _
  | 5 => Ord.stays_eq _
  | 6 => Ord.stays_eq _
  | 7 => Ord.stays_eq _
  | 8 => Ord.stays_eq _
  | 9 => Ord.stays_eq _
  | 10 => Ord.stays_eq _
  | 11 => Ord.stays_eq _
  | 12 => Ord.stays_eq _
  | 13 => fun v w w' hb ⟨a, cap, h1, h2⟩ => ⟨a, cap, h1, h2.later hb⟩
  | 14 => Ord.stays_eq _
  | 15 => Ord.stays_eq _
  | 16 => Ord.stays_eq _
  | 17 => Ord.stays_eq _
  | 18 => Ord.stays_eq _
  | 19 => Ord.stays_eq _
  | 20 => Ord.stays_eq _
  | _ + 21 => fun _ _ _ _ h => h

theorem walk (k0 : List Int) (a1 : Option Addr) (n1 cap1 : Nat) (ps1 : List (Option Addr × Nat × Nat × List Int)) (w : World) (w0 : Mac.Key k0) (w1 : Mac.Parts w a1 n1 ps1) (q1 : ∀ p ∈ ps1, p.1 = none → p.2.1 = 0 ∧ p.2.2.1 = 0) (s1 : (Mac.all ps1).length ≤ 1048576) (m1 : n1 ≤ 1048576) :
    Calls Try.prog 4 #[Mac.keyv k0, .slice a1 n1 cap1] w fun e w' => e = .returned (.bool true) ∧ Below w.heap.size w w' := by
  have hlen := Mac.rowOf_len ps1
  have hpl := w1.1
  have hbb := Mac.rowOf_bytes ps1 (fun p hp' => (w1.2.2.1 p hp').2.1)
  have K0 := Mac.hidden (Mac.Kc.new w k0 w0 23)
  have B0 := Mac.hidden ((Below.refl w.heap.size w).alloc (Nat.le_refl _) (.cells ⟨k0.map (.int .u8)⟩ 23))
  have S0 := Mac.hidden (Mac.size_alloc w (.cells ⟨k0.map (.int .u8)⟩ 23))
  unfold Mac.keyv
  go_enter Try.func4, Try.ntmps4
  go_wp2_with fail
  refine Ord.wp_region_slots (by kernel_rfl) 25 [(1, .slice a1 n1 cap1), (2, .pointer (some ⟨w.heap.size, 0, none⟩))] [5, 6, 7, 8, 9, 10, 11, 12, 13, 14, 15, 16, 17, 18, 19, 20, 21, 22, 23, 24, 4] (Es k0 a1 n1 cap1 (Mac.rowOf (Mac.bytesOf ps1))) (w.alloc (.cells ⟨k0.map (.int .u8)⟩ 23)).drew (by kernel_rfl) (by kernel_rfl) (by kernel_rfl) rfl (stays k0 a1 n1 cap1 (Mac.rowOf (Mac.bytesOf ps1))) ?_ ?_ ?_
  case refine_3 => exact ⟨rfl, rfl, (fun p hp => by simp only [List.mem_cons, List.not_mem_nil, or_false] at hp; rcases hp with rfl | rfl <;> rfl), Below.refl _ _⟩
  case refine_2 =>
    intro a w' hG hF
    obtain ⟨g1, g2, g3, g4⟩ := hG
    have h4 : a.eval (.tmp 4) = .bool true := hF 20 (by decide)
    have h4' : a.tmps[4]?.getD undef = .bool true := by simpa [Act.eval] using h4
    rename_i hKK
    refine hKK a w' ?_
    refine wp_ret ?_
    refine bodyPost_ret (v := .bool true) ?_ g2 ⟨rfl, B0.out.trans (Below.mono ⟨g4.os, g4.tape, g4.output, g4.size, g4.block⟩ (by show w.heap.size ≤ (w.alloc _).heap.size; rw [S0.out]; omega))⟩
    simp [results, Try.results4, go_sem, h4']
  case refine_1 =>
    intro i o a w' ho hG hdep
    obtain ⟨g1, g2, g3, g4⟩ := hG
    have bw : Below w.heap.size w w' := B0.out.trans (Below.mono ⟨g4.os, g4.tape, g4.output, g4.size, g4.block⟩ (by show w.heap.size ≤ (w.alloc _).heap.size; rw [S0.out]; omega))
    have hk : Mac.Kc w' w.heap.size k0 := Mac.Kc.below K0.out (n := w.heap.size + 1) ⟨g4.os, g4.tape, g4.output, g4.size, fun k hk => g4.block k (by show k < (w.alloc _).heap.size; rw [S0.out]; exact hk)⟩ (by omega)
    match i, ho with
    | 0, ho =>
      cases ho
      exact Ord.by_value rfl rfl (Mac.loadkey w0 _ rfl (g3 (2, .pointer (some ⟨w.heap.size, 0, none⟩)) (by simp)) hk) (Below.refl _ _) rfl
    | 1, ho =>
      cases ho
      exact Ord.by_value rfl rfl (v := a.eval (.tmp 1)) rfl (Below.refl _ _) (g3 (1, .slice a1 n1 cap1) (by simp))
    | 2, ho =>
      cases ho
      have da : a.eval (.tmp 5) = Mac.keyv k0 := hdep ⟨0, .data⟩ (by simp) rfl
      have db : a.eval (.tmp 6) = .slice a1 n1 cap1 := hdep ⟨1, .data⟩ (by simp) rfl
      refine Ord.by_call rfl rfl (e_sum _ _ da db rfl) (Calls.mono (Mac.sums w' k0 w0 a1 n1 cap1 ps1 (w1.later bw) (by omega)) ?_)
      rintro e w3 ⟨rfl, hb3⟩
      exact ⟨_, rfl, hb3, rfl⟩
    | 3, ho =>
      cases ho
      exact Ord.by_value rfl rfl (Mac.loadkey w0 _ rfl (g3 (2, .pointer (some ⟨w.heap.size, 0, none⟩)) (by simp)) hk) (Below.refl _ _) rfl
    | 4, ho =>
      cases ho
      exact Ord.by_value rfl rfl (v := a.eval (.tmp 1)) rfl (Below.refl _ _) (g3 (1, .slice a1 n1 cap1) (by simp))
    | 5, ho =>
      cases ho
      have da : a.eval (.tmp 8) = Mac.keyv k0 := hdep ⟨3, .data⟩ (by simp) rfl
      have db : a.eval (.tmp 9) = .slice a1 n1 cap1 := hdep ⟨4, .data⟩ (by simp) rfl
      refine Ord.by_call rfl rfl (e_rsum _ _ da db rfl) (Calls.mono (Mac.rsums w' k0 w0 a1 n1 cap1 ps1 (w1.later bw) q1 (by omega)) ?_)
      rintro e w3 ⟨rfl, hb3⟩
      exact ⟨_, rfl, hb3, rfl⟩
    | 6, ho =>
      cases ho
      have da : a.eval (.tmp 7) = .int .u64 (Mac.sip k0 (Mac.rowOf (Mac.bytesOf ps1))) := hdep ⟨2, .data⟩ (by simp) rfl
      have db : a.eval (.tmp 10) = .int .u64 (Mac.sip k0 (Mac.rowOf (Mac.bytesOf ps1))) := hdep ⟨5, .data⟩ (by simp) rfl
      exact Ord.by_value rfl rfl (eqls _ _ rfl da db) (Below.refl _ _) rfl
    | 7, ho =>
      cases ho
      have da : a.eval (.tmp 11) = .bool true := hdep ⟨6, .data⟩ (by simp) rfl
      exact Ord.by_value rfl rfl (v := a.eval (.tmp 11)) rfl (Below.refl _ _) da
    | 8, ho =>
      cases ho
      have dg : a.eval (.tmp 12) = .bool true := hdep ⟨7, .guard⟩ (by simp) rfl
      exact Ord.by_value rfl (Ord.wanted_of dg (by rw [g1]; decide) rfl rfl) (Mac.loadkey w0 _ rfl (g3 (2, .pointer (some ⟨w.heap.size, 0, none⟩)) (by simp)) hk) (Below.refl _ _) rfl
    | 9, ho =>
      cases ho
      have dg : a.eval (.tmp 12) = .bool true := hdep ⟨7, .guard⟩ (by simp) rfl
      exact Ord.by_value rfl (Ord.wanted_of dg (by rw [g1]; decide) rfl rfl) (v := a.eval (.tmp 1)) rfl (Below.refl _ _) (g3 (1, .slice a1 n1 cap1) (by simp))
    | 10, ho =>
      cases ho
      have dg : a.eval (.tmp 12) = .bool true := hdep ⟨7, .guard⟩ (by simp) rfl
      have da : a.eval (.tmp 13) = Mac.keyv k0 := hdep ⟨8, .data⟩ (by simp) rfl
      have db : a.eval (.tmp 14) = .slice a1 n1 cap1 := hdep ⟨9, .data⟩ (by simp) rfl
      refine Ord.by_call rfl (Ord.wanted_of dg (by rw [g1]; decide) rfl rfl) (e_sum _ _ da db rfl) (Calls.mono (Mac.sums w' k0 w0 a1 n1 cap1 ps1 (w1.later bw) (by omega)) ?_)
      rintro e w3 ⟨rfl, hb3⟩
      exact ⟨_, rfl, hb3, rfl⟩
    | 11, ho =>
      cases ho
      have dg : a.eval (.tmp 12) = .bool true := hdep ⟨7, .guard⟩ (by simp) rfl
      exact Ord.by_value rfl (Ord.wanted_of dg (by rw [g1]; decide) rfl rfl) (Mac.loadkey w0 _ rfl (g3 (2, .pointer (some ⟨w.heap.size, 0, none⟩)) (by simp)) hk) (Below.refl _ _) rfl
    | 12, ho =>
      cases ho
      have dg : a.eval (.tmp 12) = .bool true := hdep ⟨7, .guard⟩ (by simp) rfl
      exact Ord.by_value rfl (Ord.wanted_of dg (by rw [g1]; decide) rfl rfl) (v := a.eval (.tmp 1)) rfl (Below.refl _ _) (g3 (1, .slice a1 n1 cap1) (by simp))
    | 13, ho =>
      cases ho
      have dg : a.eval (.tmp 12) = .bool true := hdep ⟨7, .guard⟩ (by simp) rfl
      have da : a.eval (.tmp 17) = .slice a1 n1 cap1 := hdep ⟨12, .data⟩ (by simp) rfl
      refine Ord.by_call rfl (Ord.wanted_of dg (by rw [g1]; decide) rfl rfl) (Mac.e_row _ da rfl) ((Mac.rrow w' a1 n1 cap1 ps1 (w1.later bw) q1 (by omega)).mono ?_)
      rintro e w3 ⟨v, rfl, hv, hb3⟩
      obtain ⟨a', cap', rfl, hrow, _⟩ := Mac.row_own hv hbb (by omega)
      exact ⟨_, rfl, hb3, a', cap', rfl, hrow⟩
    | 14, ho =>
      cases ho
      have dg : a.eval (.tmp 12) = .bool true := hdep ⟨7, .guard⟩ (by simp) rfl
      have da : a.eval (.tmp 16) = Mac.keyv k0 := hdep ⟨11, .data⟩ (by simp) rfl
      obtain ⟨a', cap', db, hrow⟩ : ∃ a' cap', a.eval (.tmp 18) = .slice a' (Mac.rowOf (Mac.bytesOf ps1)).length cap' ∧ Mac.Row w' a' (Mac.rowOf (Mac.bytesOf ps1)).length (Mac.rowOf (Mac.bytesOf ps1)) := hdep ⟨13, .data⟩ (by simp) rfl
      refine Ord.by_call rfl (Ord.wanted_of dg (by rw [g1]; decide) rfl rfl) (e_bytes _ _ da db rfl) ((Mac.bytes w' k0 w0 a' _ cap' _ hrow).mono ?_)
      rintro e w3 ⟨rfl, hb3⟩
      exact ⟨_, rfl, hb3, rfl⟩
    | 15, ho =>
      cases ho
      have dg : a.eval (.tmp 12) = .bool true := hdep ⟨7, .guard⟩ (by simp) rfl
      have da : a.eval (.tmp 15) = .int .u64 (Mac.sip k0 (Mac.rowOf (Mac.bytesOf ps1))) := hdep ⟨10, .data⟩ (by simp) rfl
      have db : a.eval (.tmp 19) = .int .u64 (Mac.sip k0 (Mac.rowOf (Mac.bytesOf ps1))) := hdep ⟨14, .data⟩ (by simp) rfl
      exact Ord.by_value rfl (Ord.wanted_of dg (by rw [g1]; decide) rfl rfl) (eqls _ _ rfl da db) (Below.refl _ _) rfl
    | 16, ho =>
      cases ho
      have da : a.eval (.tmp 12) = .bool true := hdep ⟨7, .data⟩ (by simp) rfl
      have db : a.eval (.tmp 20) = .bool true := hdep ⟨15, .data⟩ (by simp) rfl
      exact Ord.by_value rfl rfl (pickT _ _ _ rfl da db) (Below.refl _ _) rfl
    | 17, ho =>
      cases ho
      have da : a.eval (.tmp 21) = .bool true := hdep ⟨16, .data⟩ (by simp) rfl
      exact Ord.by_value rfl rfl (v := a.eval (.tmp 21)) rfl (Below.refl _ _) da
    | 18, ho =>
      cases ho
      have dg : a.eval (.tmp 22) = .bool true := hdep ⟨17, .guard⟩ (by simp) rfl
      refine Ord.by_call rfl (Ord.wanted_of dg (by rw [g1]; decide) rfl rfl) (e_awake rfl) ((Mac.awake w').mono ?_)
      rintro e w3 ⟨rfl, hb3⟩
      exact ⟨_, rfl, hb3, rfl⟩
    | 19, ho =>
      cases ho
      have da : a.eval (.tmp 22) = .bool true := hdep ⟨17, .data⟩ (by simp) rfl
      have db : a.eval (.tmp 23) = .bool true := hdep ⟨18, .data⟩ (by simp) rfl
      exact Ord.by_value rfl rfl (pickT _ _ _ rfl da db) (Below.refl _ _) rfl
    | 20, ho =>
      cases ho
      have da : a.eval (.tmp 24) = .bool true := hdep ⟨19, .data⟩ (by simp) rfl
      exact Ord.by_value rfl rfl (v := a.eval (.tmp 24)) rfl (Below.refl _ _) da

theorem contract (H : Type) (enc : TypeId × Value → H) (W : World) (base : Nat) (args : Array Value) (ds gs : List (DataW H)) (before : List MemPlace)
    (hval : ∀ (j : Nat) t v, Try.f4.params[j]? = some t → args[j]? = some v → Value.okWide Try.prog W .any base t v)
    (hW : DataW.Whole enc Try.prog Try.f4.params.toList Rows.macSumsSpec.vars false W args.toList ds gs before)
    (hsz0 : (DataW.weightsEach Try.prog (Try.f4.params.toList ++ Rows.macSumsSpec.plain.varTypes Try.prog) (ds ++ gs)).all (· ≤ reachBytes) = true) (hk : Rows.uptoSmall H (ds ++ gs) = true) :
    Calls Try.prog 4 args W fun e W' => ∃ v, e = .returned v ∧ Rows.macSumsSpec.post enc Try.prog Try.f4 false true false false W args v W' := by
  have hW' := hW
  obtain ⟨p, q, hA0, hV, rfl, hfz, hnd⟩ := hW
  have hA : DataW.TrodAll enc Try.prog W 0 (fun _ => true) true Try.f4.params.toList args.toList ds p := hA0
  have hsz := hsz0
  rw [Try.params4] at hA hval hsz
  obtain ⟨v0, vs0, d0, ds0, p0, q0, hargs, rfl, rfl, h0, r0⟩ := trodAll_cons hA
  obtain ⟨v1, vs1, d1, ds1, p1, q1, rfl, rfl, rfl, h1, r1⟩ := trodAll_cons r0
  obtain ⟨rfl, rfl, rfl⟩ := trodAll_nil r1
  obtain rfl : args = #[v0, v1] := by cases args; simp_all
  obtain ⟨rfl, rfl⟩ := trodVars_none hV
  have k0 := h0
  have lt0 : ∀ x ∈ p0, x.block < W.heap.size := by obtain ⟨m, hm⟩ := k0; exact DataW.trod_lt m _ _ _ hm
  obtain ⟨kz0, rfl, w0⟩ := Mac.key_of (hval 0 23 v0 rfl rfl) h0
  obtain ⟨a1, n1, cap1, rfl⟩ := okWide_slice Try.underlying29 (hval 1 29 v1 rfl rfl)
  have k1 := h1
  have lt1 : ∀ x ∈ p1, x.block < W.heap.size := by obtain ⟨m, hm⟩ := k1; exact DataW.trod_lt m _ _ _ hm
  have hbulk0 := of_decide_eq_true hk
  have hbulk : Rows.uptoBulk d1 ≤ 1048576 := by
    simp only [List.append_nil, Rows.uptoBulkAll, Nat.add_zero] at hbulk0
    omega
  obtain ⟨ps1, w1, q1, s1⟩ : ∃ ps, Mac.Parts W a1 n1 ps ∧ (∀ p ∈ ps, p.1 = none → p.2.1 = 0 ∧ p.2.2.1 = 0) ∧ (Mac.all ps).length ≤ 1048576 := by
    obtain ⟨fuel, hf⟩ := h1
    exact Mac.parts_of hf hbulk
  have m1 : n1 ≤ 1048576 := by
    obtain ⟨fuel, hf⟩ := h1
    exact Mac.parts_few hf hbulk
  clear hA0 hsz0 hsz
  refine (walk kz0 a1 n1 cap1 ps1 W w0 w1 q1 s1 m1).mono fun e W' ⟨he, bel⟩ => ?_
  subst he
  exact ⟨_, rfl, _, _, _, [], _, [], hW', trodAll_mk1 (shut_bool Try.underlying4 _), (trodAll_cons_mk (Below.trod laidOut (by kernel_rfl) (of_decide_eq_true (by kernel_rfl)) k0 bel lt0) (trodAll_cons_mk (Below.trod laidOut (by kernel_rfl) (of_decide_eq_true (by kernel_rfl)) k1 bel lt1) trodAll_mk0)), rfl, bel.frame _, fun h => by cases h⟩

noncomputable def laidWorld (os : Os) : World :=
  World.holding Try.prog os ⟨#[], #[], []⟩
theorem laid_met (os : Os) : laidMet Try.prog Rows.macSumsUptoRow.laid ((laidWorld os).forCall (fun _ _ => 0) ⟨#[], #[.agg #[.int .u8 0, .int .u8 0, .int .u8 0, .int .u8 0, .int .u8 0, .int .u8 0, .int .u8 0, .int .u8 0, .int .u8 0, .int .u8 0, .int .u8 0, .int .u8 0, .int .u8 0, .int .u8 0, .int .u8 0, .int .u8 0], .slice none 0 0], []⟩).memory :=
  laidMet_of_run' 8 (by kernel_rfl) (by kernel_rfl)
theorem reads (os : Os) {H : Type} (enc : TypeId × Value → H) : ∃ places, DataW.whole enc Try.prog ((laidWorld os).forCall (fun _ _ => 0) ⟨#[], #[.agg #[.int .u8 0, .int .u8 0, .int .u8 0, .int .u8 0, .int .u8 0, .int .u8 0, .int .u8 0, .int .u8 0, .int .u8 0, .int .u8 0, .int .u8 0, .int .u8 0, .int .u8 0, .int .u8 0, .int .u8 0, .int .u8 0], .slice none 0 0], []⟩).memory Try.f4.params.toList Rows.macSumsSpec.vars false #[Value.agg #[.int .u8 0, .int .u8 0, .int .u8 0, .int .u8 0, .int .u8 0, .int .u8 0, .int .u8 0, .int .u8 0, .int .u8 0, .int .u8 0, .int .u8 0, .int .u8 0, .int .u8 0, .int .u8 0, .int .u8 0, .int .u8 0], Value.slice none 0 0].toList 8 = some ([.agg [.lit (.int .u8 0), .lit (.int .u8 0), .lit (.int .u8 0), .lit (.int .u8 0), .lit (.int .u8 0), .lit (.int .u8 0), .lit (.int .u8 0), .lit (.int .u8 0), .lit (.int .u8 0), .lit (.int .u8 0), .lit (.int .u8 0), .lit (.int .u8 0), .lit (.int .u8 0), .lit (.int .u8 0), .lit (.int .u8 0), .lit (.int .u8 0)], .nil], [], places) :=
  ⟨[], by kernel_rfl⟩

set_option maxRecDepth 100000 in
theorem lifted (os : Os) (started : os.Started) (H : Type) (enc : TypeId × Value → H) (F : Stop.Interp) :
    ReturnsInHanded {} Try.checked os 4 .any ((Rows.OpenSpec.upto Rows.macSumsSpec).preRow enc Try.prog Try.f4 Rows.macSumsUptoRow.domain false Rows.macSumsUptoRow.laid) (((Rows.OpenSpec.upto Rows.macSumsSpec).at F).post enc Try.prog Try.f4 false true false false) := by
  obtain ⟨places, hx⟩ := reads os enc
  refine returnsInHanded_of_row (C := Try.checked) (s := Rows.OpenSpec.upto Rows.macSumsSpec) own started (by kernel_rfl) Try.func4
    (witness_row_at (enc := enc) (C := Try.checked) false (laidWorld os) #[.agg #[.int .u8 0, .int .u8 0, .int .u8 0, .int .u8 0, .int .u8 0, .int .u8 0, .int .u8 0, .int .u8 0, .int .u8 0, .int .u8 0, .int .u8 0, .int .u8 0, .int .u8 0, .int .u8 0, .int .u8 0, .int .u8 0], .slice none 0 0] rfl (by kernel_rfl) (by kernel_rfl) (by kernel_rfl)
      (OpenSpec.preRow_of_cond 8 hx (by kernel_rfl) (fun k hk => by cases hk; kernel_rfl) (by kernel_rfl) (laid_met os))) ?_
  intro W base args ds gs before hval hW _ hcond hsz hL _ _
  exact contract H enc W base args ds gs before hval hW hsz (hcond _ rfl)

theorem said : Rows.MacSumsUptoSaid :=
  OpenClaim.holds_of_cond 4 Try.f4 rfl rfl rfl rfl rfl rfl rfl ⟨rfl, rfl, rfl, rfl, rfl⟩ rfl rfl rfl rfl rfl (by kernel_rfl) Try.func4 (by kernel_rfl)
    (of_decide_eq_true (by kernel_rfl)) (by unfold Func.isWrapper; first | (rw [if_pos (by decide +kernel)]; kernel_rfl) | (rw [if_neg (by decide +kernel)]; exact ⟨rfl, rfl⟩))
    (fun os started H enc _ F => by rw [OpenClaim.pre_eq_preRow]; exact lifted os started H enc F)

/-- THE STATEMENT -/
theorem proved : Rows.MacSumsUptoSaid := said
#print axioms proved
end Go.Proofs.Ytalfhcaggjgibaa.macSums
