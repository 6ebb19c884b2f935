/-
  What CwndFalls says of every call is true: what a fast retransmit, a timeout and idleness make of every window is what the document says (P12.4). Conditions: none.
-/
import Derived.Test.YtaaghlgleofcgaaRows
import Derived.WalkKit
import Derived.ProofKit
import Derived.OpenShut
import Derived.ShutString
import Derived.ChangeOld
import Derived.Below
import Derived.SizedLaws
import Derived.Deep.DeepHandedRow
import Derived.LaidLaws
import Derived.ChangeMaps5
import Derived.Test.YtaaghlgleofcgaaCwG
import Derived.Test.YtaaghlgleofcgaaAg
namespace Go.Proofs.Ytaaghlgleofcgaa.cwndFalls
open Go.ChangeShapes Go.WideShapes Go.ChangeAt Go.RowKit
open Go.ChangeMaps (open_string shut_string)
set_option linter.unusedVariables false

theorem own : ownKnob Try.prog.godebug = none := by kernel_rfl
theorem laidOut : laidOutB Try.prog = true := by kernel_rfl

theorem kd23 : Ag.Kind Try.prog 23 5 (fun q : Int × Int × Int × Int × Int => [.int .i64 q.1, .int .i64 q.2.1, .int .i64 q.2.2.1, .int .i64 q.2.2.2.1, .int .i64 q.2.2.2.2]) (fun q => (Lit.int .i64 q.1).wf = true ∧ (Lit.int .i64 q.2.1).wf = true ∧ (Lit.int .i64 q.2.2.1).wf = true ∧ (Lit.int .i64 q.2.2.2.1).wf = true ∧ (Lit.int .i64 q.2.2.2.2).wf = true) := by
  refine ⟨by kernel_rfl, by decide, fun _ => rfl, fun {H enc W base held fuel cl x} h _ => ?_⟩
  obtain ⟨xs, n, _, _, hcl, hxl, hfield⟩ := DataW.trod_struct Try.underlying23 h
  rw [show Try.prog.cellsOf 23 = 5 by kernel_rfl] at hcl
  match cl, hcl with
  | [v0, v1, v2, v3, v4], _ =>
    match xs, hxl with
    | [y0, y1, y2, y3, y4], _ =>
      have g0 := hfield 0 _ rfl
      simp [show Try.prog.cellsOf 3 = 1 by kernel_rfl] at g0
      obtain ⟨n0, e0, _, w0⟩ := DataW.trod_int Try.underlying3 g0
      simp at e0
      subst e0
      have g1 := hfield 1 _ rfl
      simp [show Try.prog.cellsOf 3 = 1 by kernel_rfl] at g1
      obtain ⟨n1, e1, _, w1⟩ := DataW.trod_int Try.underlying3 g1
      simp at e1
      subst e1
      have g2 := hfield 2 _ rfl
      simp [show Try.prog.cellsOf 3 = 1 by kernel_rfl] at g2
      obtain ⟨n2, e2, _, w2⟩ := DataW.trod_int Try.underlying3 g2
      simp at e2
      subst e2
      have g3 := hfield 3 _ rfl
      simp [show Try.prog.cellsOf 3 = 1 by kernel_rfl] at g3
      obtain ⟨n3, e3, _, w3⟩ := DataW.trod_int Try.underlying3 g3
      simp at e3
      subst e3
      have g4 := hfield 4 _ rfl
      simp [show Try.prog.cellsOf 3 = 1 by kernel_rfl] at g4
      obtain ⟨n4, e4, _, w4⟩ := DataW.trod_int Try.underlying3 g4
      simp at e4
      subst e4
      exact ⟨(n0, n1, n2, n3, n4), rfl, w0, w1, w2, w3, w4⟩
open Ba (hidden Has)
open Ow (Own)
open Cw
set_option maxRecDepth 20000 in
set_option maxHeartbeats 4000000 in

theorem walk (q0 : Int × Int × Int × Int × Int) (w : World) (w0 : (fun q => (Lit.int .i64 q.1).wf = true ∧ (Lit.int .i64 q.2.1).wf = true ∧ (Lit.int .i64 q.2.2.1).wf = true ∧ (Lit.int .i64 q.2.2.2.1).wf = true ∧ (Lit.int .i64 q.2.2.2.2).wf = true) q0) :
    Calls Try.prog 4 #[.agg ((fun q : Int × Int × Int × Int × Int => [.int .i64 q.1, .int .i64 q.2.1, .int .i64 q.2.2.1, .int .i64 q.2.2.2.1, .int .i64 q.2.2.2.2]) q0).toArray] w fun e w' => e = .returned (.bool true) ∧ Below w.heap.size w w' := by
  obtain ⟨c, s, p, m, k⟩ := q0
  have A := hidden (fastX c s p m k)
  have B := hidden (rFast c s p m k)
  have C := hidden (timeX c s p m k)
  have D := hidden (rTime c s p m k)
  have E := hidden (idleX c s p m k)
  have F := hidden (rIdle c s p m k)
  have AW := hidden Cw.awake
  have O := hidden (ow1 w c s p m k)
  generalize fastV c s p m k = x at A B
  obtain ⟨⟨x0, x1, x2, x3, x4⟩, x5⟩ := x
  generalize timeV c s p m k = y at C D
  obtain ⟨⟨y0, y1, y2, y3, y4⟩, y5⟩ := y
  generalize idleV c s p m k = z at E F
  obtain ⟨⟨z0, z1, z2, z3, z4⟩, z5⟩ := z
  unfold tr tv at A B C D E F
  simp only at A B C D E F
  clear w0
  go_enter Try.func4, Try.ntmps4
  go_wp2_with fail
  refine Calls.mono (A.out _) ?_
  rintro e w1 ⟨rfl, hB⟩
  have P1 := hidden (O.out.later hB)
  obtain ⟨c0, c1, c2, c3, c4⟩ := cells5 P1.out (b := w.heap.size) (.head _)
  have hl1 := P1.out.lt (.head _)
  have O1 := hidden (P1.out.alloc #[.int .i64 x0, .int .i64 x1, .int .i64 x2, .int .i64 x3, .int .i64 x4] 23)
  clear hB O A P1
  go_wp2_with fail
  refine Calls.mono (B.out _) ?_
  rintro e w2 ⟨rfl, hB⟩
  have P2 := hidden (O1.out.later hB)
  clear c0 c1 c2 c3 c4
  obtain ⟨c0, c1, c2, c3, c4⟩ := cells5 P2.out (b := w.heap.size) (.tail _ (.head _))
  have hl2 := P2.out.lt (.tail _ (.head _))
  have O2 := hidden (P2.out.alloc #[.int .i64 x0, .int .i64 x1, .int .i64 x2, .int .i64 x3, .int .i64 x4] 23)
  clear hB O1 B P2
  go_wp2_with fail
  refine Calls.mono (C.out _) ?_
  rintro e w3 ⟨rfl, hB⟩
  have P3 := hidden (O2.out.later hB)
  clear c0 c1 c2 c3 c4
  obtain ⟨c0, c1, c2, c3, c4⟩ := cells5 P3.out (b := w.heap.size) (.tail _ (.tail _ (.head _)))
  have hl3 := P3.out.lt (.tail _ (.tail _ (.head _)))
  have O3 := hidden (P3.out.alloc #[.int .i64 y0, .int .i64 y1, .int .i64 y2, .int .i64 y3, .int .i64 y4] 23)
  clear hB O2 C P3
  go_wp2_with fail
  refine Calls.mono (D.out _) ?_
  rintro e w4 ⟨rfl, hB⟩
  have P4 := hidden (O3.out.later hB)
  clear c0 c1 c2 c3 c4
  obtain ⟨c0, c1, c2, c3, c4⟩ := cells5 P4.out (b := w.heap.size) (.tail _ (.tail _ (.tail _ (.head _))))
  have hl4 := P4.out.lt (.tail _ (.tail _ (.tail _ (.head _))))
  have O4 := hidden (P4.out.alloc #[.int .i64 y0, .int .i64 y1, .int .i64 y2, .int .i64 y3, .int .i64 y4] 23)
  clear hB O3 D P4
  go_wp2_with fail
  refine Calls.mono (E.out _) ?_
  rintro e w5 ⟨rfl, hB⟩
  have P5 := hidden (O4.out.later hB)
  clear c0 c1 c2 c3 c4
  obtain ⟨c0, c1, c2, c3, c4⟩ := cells5 P5.out (b := w.heap.size) (.tail _ (.tail _ (.tail _ (.tail _ (.head _)))))
  have hl5 := P5.out.lt (.tail _ (.tail _ (.tail _ (.tail _ (.head _)))))
  have O5 := hidden (P5.out.alloc #[.int .i64 z0, .int .i64 z1, .int .i64 z2, .int .i64 z3, .int .i64 z4] 23)
  clear hB O4 E P5
  go_wp2_with fail
  refine Calls.mono (F.out _) ?_
  rintro e w6 ⟨rfl, hB⟩
  have P6 := hidden (O5.out.later hB)
  clear c0 c1 c2 c3 c4
  obtain ⟨c0, c1, c2, c3, c4⟩ := cells5 P6.out (b := w.heap.size) (.tail _ (.tail _ (.tail _ (.tail _ (.tail _ (.head _))))))
  have hl6 := P6.out.lt (.tail _ (.tail _ (.tail _ (.tail _ (.tail _ (.head _))))))
  have O6 := hidden (P6.out.alloc #[.int .i64 z0, .int .i64 z1, .int .i64 z2, .int .i64 z3, .int .i64 z4] 23)
  obtain ⟨a10, a11, a12, a13, a14⟩ := cells5 P6.out (b := w1.heap.size) (.tail _ (.tail _ (.tail _ (.tail _ (.head _)))))
  have hk1 := P6.out.lt (b := w1.heap.size) (.tail _ (.tail _ (.tail _ (.tail _ (.head _)))))
  obtain ⟨a20, a21, a22, a23, a24⟩ := cells5 P6.out (b := w2.heap.size) (.tail _ (.tail _ (.tail _ (.head _))))
  have hk2 := P6.out.lt (b := w2.heap.size) (.tail _ (.tail _ (.tail _ (.head _))))
  obtain ⟨a30, a31, a32, a33, a34⟩ := cells5 P6.out (b := w3.heap.size) (.tail _ (.tail _ (.head _)))
  have hk3 := P6.out.lt (b := w3.heap.size) (.tail _ (.tail _ (.head _)))
  obtain ⟨a40, a41, a42, a43, a44⟩ := cells5 P6.out (b := w4.heap.size) (.tail _ (.head _))
  have hk4 := P6.out.lt (b := w4.heap.size) (.tail _ (.head _))
  obtain ⟨a50, a51, a52, a53, a54⟩ := cells5 P6.out (b := w5.heap.size) (.head _)
  have hk5 := P6.out.lt (b := w5.heap.size) (.head _)
  clear hB O5 F P6
  go_wp2_with fail
  refine Calls.mono (AW.out _) ?_
  rintro e wz ⟨rfl, hB⟩
  have HB := hidden (O6.out.later hB).below
  clear hB
  go_wp2
  go_ret
  exact ⟨rfl, HB.out⟩

theorem contract (H : Type) (enc : TypeId × Value → H) (W : World) (base : Nat) (args : Array Value) (ds gs : List (DataW H)) (before : List MemPlace)
    (hval : ∀ (j : Nat) t v, Try.f4.params[j]? = some t → args[j]? = some v → Value.okWide Try.prog W .any base t v)
    (hW : DataW.Whole enc Try.prog Try.f4.params.toList Rows.cwndFallsSpec.vars false W args.toList ds gs before)
    (hsz0 : (DataW.weightsEach Try.prog (Try.f4.params.toList ++ Rows.cwndFallsSpec.plain.varTypes Try.prog) (ds ++ gs)).all (· ≤ reachBytes) = true) :
    Calls Try.prog 4 args W fun e W' => ∃ v, e = .returned v ∧ Rows.cwndFallsSpec.post enc Try.prog Try.f4 false true false false W args v W' := by
  have hW' := hW
  obtain ⟨p, q, hA0, hV, rfl, hfz, hnd⟩ := hW
  have hA : DataW.TrodAll enc Try.prog W 0 (fun _ => true) true Try.f4.params.toList args.toList ds p := hA0
  have hsz := hsz0
  rw [Try.params4] at hA hval hsz
  obtain ⟨v0, vs0, d0, ds0, p0, q0, hargs, rfl, rfl, h0, r0⟩ := trodAll_cons hA
  obtain ⟨rfl, rfl, rfl⟩ := trodAll_nil r0
  obtain rfl : args = #[v0] := by cases args; simp_all
  obtain ⟨rfl, rfl⟩ := trodVars_none hV
  have k0 := h0
  have lt0 : ∀ x ∈ p0, x.block < W.heap.size := by obtain ⟨m, hm⟩ := k0; exact DataW.trod_lt m _ _ _ hm
  have sz0 : (d0.weights Try.prog 23).all (· ≤ reachBytes) = true := List.all_eq_true.2 fun m hm => List.all_eq_true.1 hsz m (DataW.weights_mem_each (j := 0) rfl rfl m hm)
  obtain ⟨q0, rfl, w0⟩ : ∃ q, v0 = .agg ((fun q : Int × Int × Int × Int × Int => [.int .i64 q.1, .int .i64 q.2.1, .int .i64 q.2.2.1, .int .i64 q.2.2.2.1, .int .i64 q.2.2.2.2]) q).toArray ∧ (fun q => (Lit.int .i64 q.1).wf = true ∧ (Lit.int .i64 q.2.1).wf = true ∧ (Lit.int .i64 q.2.2.1).wf = true ∧ (Lit.int .i64 q.2.2.2.1).wf = true ∧ (Lit.int .i64 q.2.2.2.2).wf = true) q := by
    obtain ⟨fuel, hf⟩ := h0
    exact Ag.one_arg kd23 Try.underlying23 (hval 0 23 v0 rfl rfl) hf sz0
  clear hA0 hsz0 hsz
  refine (walk q0 W w0).mono fun e W' ⟨he, bel⟩ => ?_
  subst he
  exact ⟨_, rfl, _, _, _, [], _, [], hW', trodAll_mk1 (shut_bool Try.underlying4 _), (trodAll_cons_mk (Below.trod laidOut (by kernel_rfl) (of_decide_eq_true (by kernel_rfl)) k0 bel lt0) trodAll_mk0), rfl, bel.frame _, fun h => by cases h⟩

noncomputable def laidWorld (os : Os) : World :=
  World.holding Try.prog os ⟨#[], #[], []⟩
theorem laid_met (os : Os) : laidMet Try.prog Rows.cwndFallsRow.laid ((laidWorld os).forCall (fun _ _ => 0) ⟨#[], #[.agg #[.int .i64 0, .int .i64 0, .int .i64 0, .int .i64 0, .int .i64 0]], []⟩).memory :=
  laidMet_of_run' 8 (by kernel_rfl) (by kernel_rfl)
theorem reads (os : Os) {H : Type} (enc : TypeId × Value → H) : ∃ places, DataW.whole enc Try.prog ((laidWorld os).forCall (fun _ _ => 0) ⟨#[], #[.agg #[.int .i64 0, .int .i64 0, .int .i64 0, .int .i64 0, .int .i64 0]], []⟩).memory Try.f4.params.toList Rows.cwndFallsSpec.vars false #[Value.agg #[.int .i64 0, .int .i64 0, .int .i64 0, .int .i64 0, .int .i64 0]].toList 8 = some ([.agg [.lit (.int .i64 0), .lit (.int .i64 0), .lit (.int .i64 0), .lit (.int .i64 0), .lit (.int .i64 0)]], [], places) :=
  ⟨[], by kernel_rfl⟩

set_option maxRecDepth 100000 in
theorem lifted (os : Os) (started : os.Started) (H : Type) (enc : TypeId × Value → H) (F : Stop.Interp) :
    ReturnsInHanded {} Try.checked os 4 .any ((OpenSpec.ofChange Rows.cwndFallsSpec).preRow enc Try.prog Try.f4 Rows.cwndFallsRow.domain false Rows.cwndFallsRow.laid) (((OpenSpec.ofChange Rows.cwndFallsSpec).at F).post enc Try.prog Try.f4 false true false false) := by
  obtain ⟨places, hx⟩ := reads os enc
  refine returnsInHanded_of_row (C := Try.checked) (s := OpenSpec.ofChange Rows.cwndFallsSpec) own started (by kernel_rfl) Try.func4
    (witness_row_at (enc := enc) (C := Try.checked) false (laidWorld os) #[.agg #[.int .i64 0, .int .i64 0, .int .i64 0, .int .i64 0, .int .i64 0]] rfl (by kernel_rfl) (by kernel_rfl) (by kernel_rfl)
      (OpenSpec.preRow_of_cond 8 hx (by kernel_rfl) (fun k hk => by cases hk) (by kernel_rfl) (laid_met os))) ?_
  intro W base args ds gs before hval hW _ hcond hsz hL _ _
  exact contract H enc W base args ds gs before hval hW hsz

theorem said : Rows.CwndFallsSaid :=
  OpenClaim.holds_of_cond 4 Try.f4 rfl rfl rfl rfl rfl rfl rfl ⟨rfl, rfl, rfl, rfl, rfl⟩ rfl rfl rfl rfl rfl (by kernel_rfl) Try.func4 (by kernel_rfl)
    (of_decide_eq_true (by kernel_rfl)) (by unfold Func.isWrapper; first | (rw [if_pos (by decide +kernel)]; kernel_rfl) | (rw [if_neg (by decide +kernel)]; exact ⟨rfl, rfl⟩))
    (fun os started H enc _ F => by rw [OpenClaim.pre_eq_preRow]; exact lifted os started H enc F)

/-- THE STATEMENT -/
theorem proved : Rows.CwndFallsSaid := said
#print axioms proved
end Go.Proofs.Ytaaghlgleofcgaa.cwndFalls
