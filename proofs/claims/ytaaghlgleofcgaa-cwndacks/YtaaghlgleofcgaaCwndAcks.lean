/-
  What CwndAcks says of every call is true: what an acknowledgement and coupled growth make of every window is what the document says (P12.2, P12.3). Conditions: none.
-/
import Derived.Test.YtaaghlgleofcgaaRows
import Derived.WalkKit
import Derived.ProofKit
import Derived.OpenShut
import Derived.ShutString
import Derived.ChangeOld
import Derived.Below
import Derived.SizedLaws
import Derived.Deep.DeepHandedRow
import Derived.LaidLaws
import Derived.ChangeMaps5
import Derived.Test.YtaaghlgleofcgaaCwG
import Derived.Test.YtaaghlgleofcgaaAg
namespace Go.Proofs.Ytaaghlgleofcgaa.cwndAcks
open Go.ChangeShapes Go.WideShapes Go.ChangeAt Go.RowKit
open Go.ChangeMaps (open_string shut_string)
set_option linter.unusedVariables false

theorem own : ownKnob Try.prog.godebug = none := by kernel_rfl
theorem laidOut : laidOutB Try.prog = true := by kernel_rfl

theorem kd23 : Ag.Kind Try.prog 23 5 (fun q : Int × Int × Int × Int × Int => [.int .i64 q.1, .int .i64 q.2.1, .int .i64 q.2.2.1, .int .i64 q.2.2.2.1, .int .i64 q.2.2.2.2]) (fun q => (Lit.int .i64 q.1).wf = true ∧ (Lit.int .i64 q.2.1).wf = true ∧ (Lit.int .i64 q.2.2.1).wf = true ∧ (Lit.int .i64 q.2.2.2.1).wf = true ∧ (Lit.int .i64 q.2.2.2.2).wf = true) := by
  refine ⟨by kernel_rfl, by decide, fun _ => rfl, fun {H enc W base held fuel cl x} h _ => ?_⟩
  obtain ⟨xs, n, _, _, hcl, hxl, hfield⟩ := DataW.trod_struct Try.underlying23 h
  rw [show Try.prog.cellsOf 23 = 5 by kernel_rfl] at hcl
  match cl, hcl with
  | [v0, v1, v2, v3, v4], _ =>
    match xs, hxl with
    | [y0, y1, y2, y3, y4], _ =>
      have g0 := hfield 0 _ rfl
      simp [show Try.prog.cellsOf 3 = 1 by kernel_rfl] at g0
      obtain ⟨n0, e0, _, w0⟩ := DataW.trod_int Try.underlying3 g0
      simp at e0
      subst e0
      have g1 := hfield 1 _ rfl
      simp [show Try.prog.cellsOf 3 = 1 by kernel_rfl] at g1
      obtain ⟨n1, e1, _, w1⟩ := DataW.trod_int Try.underlying3 g1
      simp at e1
      subst e1
      have g2 := hfield 2 _ rfl
      simp [show Try.prog.cellsOf 3 = 1 by kernel_rfl] at g2
      obtain ⟨n2, e2, _, w2⟩ := DataW.trod_int Try.underlying3 g2
      simp at e2
      subst e2
      have g3 := hfield 3 _ rfl
      simp [show Try.prog.cellsOf 3 = 1 by kernel_rfl] at g3
      obtain ⟨n3, e3, _, w3⟩ := DataW.trod_int Try.underlying3 g3
      simp at e3
      subst e3
      have g4 := hfield 4 _ rfl
      simp [show Try.prog.cellsOf 3 = 1 by kernel_rfl] at g4
      obtain ⟨n4, e4, _, w4⟩ := DataW.trod_int Try.underlying3 g4
      simp at e4
      subst e4
      exact ⟨(n0, n1, n2, n3, n4), rfl, w0, w1, w2, w3, w4⟩
open Ba (hidden Has)
open Ow (Own)
open Cw
set_option maxRecDepth 20000 in
set_option maxHeartbeats 4000000 in

theorem walk (q0 : Int × Int × Int × Int × Int) (a1 : Int) (a2 : Bool) (a3 : Bool) (w : World) (w0 : (fun q => (Lit.int .i64 q.1).wf = true ∧ (Lit.int .i64 q.2.1).wf = true ∧ (Lit.int .i64 q.2.2.1).wf = true ∧ (Lit.int .i64 q.2.2.2.1).wf = true ∧ (Lit.int .i64 q.2.2.2.2).wf = true) q0) (w1 : (Lit.int .i64 a1).wf = true)   :
    Calls Try.prog 3 #[.agg ((fun q : Int × Int × Int × Int × Int => [.int .i64 q.1, .int .i64 q.2.1, .int .i64 q.2.2.1, .int .i64 q.2.2.2.1, .int .i64 q.2.2.2.2]) q0).toArray, .int .i64 a1, .bool a2, .bool a3] w fun e w' => e = .returned (.bool true) ∧ Below w.heap.size w w' := by
  obtain ⟨c, s, p, m, k⟩ := q0
  have A := hidden (ackX c s p m k a1 a2 a3)
  have B := hidden (rAck c s p m k a1 a2 a3)
  have C := hidden (growX c s p m k a1)
  have D := hidden (rGrow c s p m k a1)
  have AW := hidden Cw.awake
  have O := hidden (ow1 w c s p m k)
  generalize ackV c s p m k a1 a2 a3 = x at A B
  obtain ⟨⟨x0, x1, x2, x3, x4⟩, x5⟩ := x
  generalize growV c s p m k a1 = y at C D
  obtain ⟨⟨y0, y1, y2, y3, y4⟩, y5⟩ := y
  unfold tr tv at A B C D
  simp only at A B C D
  clear w0 w1
  go_enter Try.func3, Try.ntmps3
  go_wp2_with fail
  refine Calls.mono (A.out _) ?_
  rintro e w1 ⟨rfl, hB⟩
  have P1 := hidden (O.out.later hB)
  obtain ⟨c0, c1, c2, c3, c4⟩ := cells5 P1.out (b := w.heap.size) (.head _)
  have hl1 := P1.out.lt (.head _)
  have O1 := hidden (P1.out.alloc #[.int .i64 x0, .int .i64 x1, .int .i64 x2, .int .i64 x3, .int .i64 x4] 23)
  clear hB O A P1
  go_wp2_with fail
  refine Calls.mono (B.out _) ?_
  rintro e w2 ⟨rfl, hB⟩
  have P2 := hidden (O1.out.later hB)
  clear c0 c1 c2 c3 c4
  obtain ⟨c0, c1, c2, c3, c4⟩ := cells5 P2.out (b := w.heap.size) (.tail _ (.head _))
  have hl2 := P2.out.lt (.tail _ (.head _))
  have O2 := hidden (P2.out.alloc #[.int .i64 x0, .int .i64 x1, .int .i64 x2, .int .i64 x3, .int .i64 x4] 23)
  clear hB O1 B P2
  go_wp2_with fail
  refine Calls.mono (C.out _) ?_
  rintro e w3 ⟨rfl, hB⟩
  have P3 := hidden (O2.out.later hB)
  clear c0 c1 c2 c3 c4
  obtain ⟨c0, c1, c2, c3, c4⟩ := cells5 P3.out (b := w.heap.size) (.tail _ (.tail _ (.head _)))
  have hl3 := P3.out.lt (.tail _ (.tail _ (.head _)))
  have O3 := hidden (P3.out.alloc #[.int .i64 y0, .int .i64 y1, .int .i64 y2, .int .i64 y3, .int .i64 y4] 23)
  clear hB O2 C P3
  go_wp2_with fail
  refine Calls.mono (D.out _) ?_
  rintro e w4 ⟨rfl, hB⟩
  have P4 := hidden (O3.out.later hB)
  clear c0 c1 c2 c3 c4
  obtain ⟨c0, c1, c2, c3, c4⟩ := cells5 P4.out (b := w.heap.size) (.tail _ (.tail _ (.tail _ (.head _))))
  have hl4 := P4.out.lt (.tail _ (.tail _ (.tail _ (.head _))))
  have O4 := hidden (P4.out.alloc #[.int .i64 y0, .int .i64 y1, .int .i64 y2, .int .i64 y3, .int .i64 y4] 23)
  obtain ⟨a10, a11, a12, a13, a14⟩ := cells5 P4.out (b := w1.heap.size) (.tail _ (.tail _ (.head _)))
  have hk1 := P4.out.lt (b := w1.heap.size) (.tail _ (.tail _ (.head _)))
  obtain ⟨a20, a21, a22, a23, a24⟩ := cells5 P4.out (b := w2.heap.size) (.tail _ (.head _))
  have hk2 := P4.out.lt (b := w2.heap.size) (.tail _ (.head _))
  obtain ⟨a30, a31, a32, a33, a34⟩ := cells5 P4.out (b := w3.heap.size) (.head _)
  have hk3 := P4.out.lt (b := w3.heap.size) (.head _)
  clear hB O3 D P4
  go_wp2_with fail
  refine Calls.mono (AW.out _) ?_
  rintro e wz ⟨rfl, hB⟩
  have HB := hidden (O4.out.later hB).below
  clear hB
  go_wp2
  go_ret
  exact ⟨rfl, HB.out⟩

theorem contract (H : Type) (enc : TypeId × Value → H) (W : World) (base : Nat) (args : Array Value) (ds gs : List (DataW H)) (before : List MemPlace)
    (hval : ∀ (j : Nat) t v, Try.f3.params[j]? = some t → args[j]? = some v → Value.okWide Try.prog W .any base t v)
    (hW : DataW.Whole enc Try.prog Try.f3.params.toList Rows.cwndAcksSpec.vars false W args.toList ds gs before)
    (hsz0 : (DataW.weightsEach Try.prog (Try.f3.params.toList ++ Rows.cwndAcksSpec.plain.varTypes Try.prog) (ds ++ gs)).all (· ≤ reachBytes) = true) :
    Calls Try.prog 3 args W fun e W' => ∃ v, e = .returned v ∧ Rows.cwndAcksSpec.post enc Try.prog Try.f3 false true false false W args v W' := by
  have hW' := hW
  obtain ⟨p, q, hA0, hV, rfl, hfz, hnd⟩ := hW
  have hA : DataW.TrodAll enc Try.prog W 0 (fun _ => true) true Try.f3.params.toList args.toList ds p := hA0
  have hsz := hsz0
  rw [Try.params3] at hA hval hsz
  obtain ⟨v0, vs0, d0, ds0, p0, q0, hargs, rfl, rfl, h0, r0⟩ := trodAll_cons hA
  obtain ⟨v1, vs1, d1, ds1, p1, q1, rfl, rfl, rfl, h1, r1⟩ := trodAll_cons r0
  obtain ⟨v2, vs2, d2, ds2, p2, q2, rfl, rfl, rfl, h2, r2⟩ := trodAll_cons r1
  obtain ⟨v3, vs3, d3, ds3, p3, q3, rfl, rfl, rfl, h3, r3⟩ := trodAll_cons r2
  obtain ⟨rfl, rfl, rfl⟩ := trodAll_nil r3
  obtain rfl : args = #[v0, v1, v2, v3] := by cases args; simp_all
  obtain ⟨rfl, rfl⟩ := trodVars_none hV
  have k0 := h0
  have lt0 : ∀ x ∈ p0, x.block < W.heap.size := by obtain ⟨m, hm⟩ := k0; exact DataW.trod_lt m _ _ _ hm
  have sz0 : (d0.weights Try.prog 23).all (· ≤ reachBytes) = true := List.all_eq_true.2 fun m hm => List.all_eq_true.1 hsz m (DataW.weights_mem_each (j := 0) rfl rfl m hm)
  obtain ⟨q0, rfl, w0⟩ : ∃ q, v0 = .agg ((fun q : Int × Int × Int × Int × Int => [.int .i64 q.1, .int .i64 q.2.1, .int .i64 q.2.2.1, .int .i64 q.2.2.2.1, .int .i64 q.2.2.2.2]) q).toArray ∧ (fun q => (Lit.int .i64 q.1).wf = true ∧ (Lit.int .i64 q.2.1).wf = true ∧ (Lit.int .i64 q.2.2.1).wf = true ∧ (Lit.int .i64 q.2.2.2.1).wf = true ∧ (Lit.int .i64 q.2.2.2.2).wf = true) q := by
    obtain ⟨fuel, hf⟩ := h0
    exact Ag.one_arg kd23 Try.underlying23 (hval 0 23 v0 rfl rfl) hf sz0
  obtain ⟨a1, rfl, rfl, rfl, w1⟩ := open_int Try.underlying3 (hval 1 3 v1 rfl rfl) h1
  obtain ⟨a2, rfl, rfl, rfl⟩ := open_bool Try.underlying4 (hval 2 4 v2 rfl rfl) h2
  obtain ⟨a3, rfl, rfl, rfl⟩ := open_bool Try.underlying4 (hval 3 4 v3 rfl rfl) h3
  clear hA0 hsz0 hsz
  refine (walk q0 a1 a2 a3 W w0 w1  ).mono fun e W' ⟨he, bel⟩ => ?_
  subst he
  exact ⟨_, rfl, _, _, _, [], _, [], hW', trodAll_mk1 (shut_bool Try.underlying4 _), (trodAll_cons_mk (Below.trod laidOut (by kernel_rfl) (of_decide_eq_true (by kernel_rfl)) k0 bel lt0) (trodAll_cons_mk (shut_int Try.underlying3 w1) (trodAll_cons_mk (shut_bool Try.underlying4 _) (trodAll_cons_mk (shut_bool Try.underlying4 _) trodAll_mk0)))), rfl, bel.frame _, fun h => by cases h⟩

noncomputable def laidWorld (os : Os) : World :=
  World.holding Try.prog os ⟨#[], #[], []⟩
theorem laid_met (os : Os) : laidMet Try.prog Rows.cwndAcksRow.laid ((laidWorld os).forCall (fun _ _ => 0) ⟨#[], #[.agg #[.int .i64 0, .int .i64 0, .int .i64 0, .int .i64 0, .int .i64 0], .int .i64 0, .bool false, .bool false], []⟩).memory :=
  laidMet_of_run' 8 (by kernel_rfl) (by kernel_rfl)
theorem reads (os : Os) {H : Type} (enc : TypeId × Value → H) : ∃ places, DataW.whole enc Try.prog ((laidWorld os).forCall (fun _ _ => 0) ⟨#[], #[.agg #[.int .i64 0, .int .i64 0, .int .i64 0, .int .i64 0, .int .i64 0], .int .i64 0, .bool false, .bool false], []⟩).memory Try.f3.params.toList Rows.cwndAcksSpec.vars false #[Value.agg #[.int .i64 0, .int .i64 0, .int .i64 0, .int .i64 0, .int .i64 0], Value.int .i64 0, Value.bool false, Value.bool false].toList 8 = some ([.agg [.lit (.int .i64 0), .lit (.int .i64 0), .lit (.int .i64 0), .lit (.int .i64 0), .lit (.int .i64 0)], .lit (.int .i64 0), .lit (.bool false), .lit (.bool false)], [], places) :=
  ⟨[], by kernel_rfl⟩

set_option maxRecDepth 100000 in
theorem lifted (os : Os) (started : os.Started) (H : Type) (enc : TypeId × Value → H) (F : Stop.Interp) :
    ReturnsInHanded {} Try.checked os 3 .any ((OpenSpec.ofChange Rows.cwndAcksSpec).preRow enc Try.prog Try.f3 Rows.cwndAcksRow.domain false Rows.cwndAcksRow.laid) (((OpenSpec.ofChange Rows.cwndAcksSpec).at F).post enc Try.prog Try.f3 false true false false) := by
  obtain ⟨places, hx⟩ := reads os enc
  refine returnsInHanded_of_row (C := Try.checked) (s := OpenSpec.ofChange Rows.cwndAcksSpec) own started (by kernel_rfl) Try.func3
    (witness_row_at (enc := enc) (C := Try.checked) false (laidWorld os) #[.agg #[.int .i64 0, .int .i64 0, .int .i64 0, .int .i64 0, .int .i64 0], .int .i64 0, .bool false, .bool false] rfl (by kernel_rfl) (by kernel_rfl) (by kernel_rfl)
      (OpenSpec.preRow_of_cond 8 hx (by kernel_rfl) (fun k hk => by cases hk) (by kernel_rfl) (laid_met os))) ?_
  intro W base args ds gs before hval hW _ hcond hsz hL _ _
  exact contract H enc W base args ds gs before hval hW hsz

theorem said : Rows.CwndAcksSaid :=
  OpenClaim.holds_of_cond 3 Try.f3 rfl rfl rfl rfl rfl rfl rfl ⟨rfl, rfl, rfl, rfl, rfl⟩ rfl rfl rfl rfl rfl (by kernel_rfl) Try.func3 (by kernel_rfl)
    (of_decide_eq_true (by kernel_rfl)) (by unfold Func.isWrapper; first | (rw [if_pos (by decide +kernel)]; kernel_rfl) | (rw [if_neg (by decide +kernel)]; exact ⟨rfl, rfl⟩))
    (fun os started H enc _ F => by rw [OpenClaim.pre_eq_preRow]; exact lifted os started H enc F)

/-- THE STATEMENT -/
theorem proved : Rows.CwndAcksSaid := said
#print axioms proved
end Go.Proofs.Ytaaghlgleofcgaa.cwndAcks
