/-
  What SchedOrders says of every call is true: which paths are fit, their order by every kind and the first of them are as the document tells them, and which views may be (P18.1). Conditions: none.
-/
import Derived.Test.YtcflcibncbipbaaRows
import Derived.WalkKit
import Derived.ProofKit
import Derived.OpenShut
import Derived.ShutString
import Derived.ChangeOld
import Derived.Below
import Derived.SizedLaws
import Derived.Deep.DeepHandedRow
import Derived.LaidLaws
import Derived.ChangeMaps5
import Derived.Test.YtcflcibncbipbaaScQ
import Derived.Test.YtcflcibncbipbaaAg
namespace Go.Proofs.Ytcflcibncbipbaa.schedOrders
open Go.ChangeShapes Go.WideShapes Go.ChangeAt Go.RowKit
open Go.ChangeMaps (open_string shut_string)
set_option linter.unusedVariables false

theorem own : ownKnob Try.prog.godebug = none := by kernel_rfl
theorem laidOut : laidOutB Try.prog = true := by kernel_rfl

theorem kd42 : Ag.Kind Try.prog 42 4 (fun q : Int × Int × Int × Bool => [.int .i64 q.1, .int .i64 q.2.1, .int .i64 q.2.2.1, .bool q.2.2.2]) (fun q => (Lit.int .i64 q.1).wf = true ∧ (Lit.int .i64 q.2.1).wf = true ∧ (Lit.int .i64 q.2.2.1).wf = true) := by
  refine ⟨by kernel_rfl, by decide, fun _ => rfl, fun {H enc W base held fuel cl x} h _ => ?_⟩
  obtain ⟨xs, n, _, _, hcl, hxl, hfield⟩ := DataW.trod_struct Try.underlying42 h
  rw [show Try.prog.cellsOf 42 = 4 by kernel_rfl] at hcl
  match cl, hcl with
  | [v0, v1, v2, v3], _ =>
    match xs, hxl with
    | [y0, y1, y2, y3], _ =>
      have g0 := hfield 0 _ rfl
      simp [show Try.prog.cellsOf 40 = 1 by kernel_rfl] at g0
      obtain ⟨n0, e0, _, w0⟩ := DataW.trod_int Try.underlying40 g0
      simp at e0
      subst e0
      have g1 := hfield 1 _ rfl
      simp [show Try.prog.cellsOf 3 = 1 by kernel_rfl] at g1
      obtain ⟨n1, e1, _, w1⟩ := DataW.trod_int Try.underlying3 g1
      simp at e1
      subst e1
      have g2 := hfield 2 _ rfl
      simp [show Try.prog.cellsOf 3 = 1 by kernel_rfl] at g2
      obtain ⟨n2, e2, _, w2⟩ := DataW.trod_int Try.underlying3 g2
      simp at e2
      subst e2
      have g3 := hfield 3 _ rfl
      simp [show Try.prog.cellsOf 4 = 1 by kernel_rfl] at g3
      obtain ⟨n3, e3, _⟩ := DataW.trod_bool Try.underlying4 g3
      simp at e3
      subst e3
      exact ⟨(n0, n1, n2, n3), rfl, w0, w1, w2⟩
open Ba (hidden Has)
open Ow (Own)
open Sc
set_option maxHeartbeats 1000000 in

theorem walk (a0 : Int) (a1 : Int) (a2 : Option Addr) (len2 cap2 : Nat) (z2 : List (Int × Int × Int × Bool)) (w : World) (w0 : (Lit.int .i64 a0).wf = true) (w1 : (Lit.int .i64 a1).wf = true) (w2 : Ag.Rows (fun q : Int × Int × Int × Bool => [.int .i64 q.1, .int .i64 q.2.1, .int .i64 q.2.2.1, .bool q.2.2.2]) (fun q => (Lit.int .i64 q.1).wf = true ∧ (Lit.int .i64 q.2.1).wf = true ∧ (Lit.int .i64 q.2.2.1).wf = true) 4 w a2 len2 z2) (s2 : len2 ≤ cap2 ∧ cap2 * Try.prog.bytesOf 42 ≤ 140737488351232 ∧ (a2 = none → len2 = 0 ∧ cap2 = 0)) :
    Calls Try.prog 3 #[.int .i64 a0, .int .i64 a1, .slice a2 len2 cap2] w fun e w' => e = .returned (.bool true) ∧ Below w.heap.size w w' := by
  have AW := hidden Sc.awake
  have A := hidden (order (cap := cap2) w2 a0 a1)
  have B : Hid (∀ X, Below w.heap.size w X → Calls Try.prog 9 #[.int .i64 a0, .int .i64 a1, .slice a2 len2 cap2] X fun e w' => RowO X w' e (oL a0 a1 z2) (oE a0 z2)) := fun X hX => rorder (w2.later hX) a0 a1
  have C : Hid (∀ X, Below w.heap.size w X → Calls Try.prog 10 #[.int .i64 a0, .int .i64 a1, .slice a2 len2 cap2] X fun e w' => e = .returned (.tuple #[.int .i64 (nV a0 a1 z2), .bool (nB a0 a1 z2), .int .i64 (oE a0 z2)]) ∧ Below X.heap.size X w') := fun X hX => next (w2.later hX) a0 a1
  have D : Hid (∀ X, Below w.heap.size w X → Calls Try.prog 11 #[.int .i64 a0, .int .i64 a1, .slice a2 len2 cap2] X fun e w' => e = .returned (.tuple #[.int .i64 (nV a0 a1 z2), .bool (nB a0 a1 z2), .int .i64 (oE a0 z2)]) ∧ Below X.heap.size X w') := fun X hX => rnext (w2.later hX) a0 a1
  have K : Hid (∀ X, Below w.heap.size w X → Calls Try.prog 13 #[.slice a2 len2 cap2] X fun e w' => e = .returned (.int .i64 (chk z2)) ∧ Below X.heap.size X w') := fun X hX => check (w2.later hX)
  have L : Hid (∀ X, Below w.heap.size w X → Calls Try.prog 14 #[.slice a2 len2 cap2] X fun e w' => e = .returned (.int .i64 (chk z2)) ∧ Below X.heap.size X w') := fun X hX => rcheck (w2.later hX)
  have WF : Hid (∀ x ∈ oL a0 a1 z2, (Lit.int .i64 x).wf = true) := fun x hx => oL_wf hx
  have LN := hidden (oL_len a0 a1 z2)
  generalize oL a0 a1 z2 = O at *
  generalize oE a0 z2 = E at *
  generalize nV a0 a1 z2 = V at *
  generalize nB a0 a1 z2 = T at *
  generalize chk z2 = Q at *
  clear w0 w1 w2 s2
  go_enter Try.func3, Try.ntmps3
  go_wp2_with fail
  refine Calls.mono A.out ?_
  rintro e x1 ⟨b1, k1, c1, rfl, hown1, hB⟩
  have HB1 := hidden hB
  have R1 := hidden hown1
  clear hB hown1 A
  go_wp2_with fail
  refine Calls.mono (B.out _ HB1.out) ?_
  rintro e x2 ⟨b2, k2, c2, rfl, hown2, hB⟩
  have hl1 : O.length = k1 := by have := R1.out.1; rw [lc_len] at this; omega
  have hl2 : O.length = k2 := by have := hown2.1; rw [lc_len] at this; omega
  obtain ⟨y1, z1, e1, n1⟩ := Nu.own (row_below R1.out hB) WF.out (by have := LN.out; omega)
  obtain ⟨y2, z2', e2, n2⟩ := Nu.own hown2 WF.out (by have := LN.out; omega)
  cases e1
  cases e2
  have N1 := hidden n1
  have N2 := hidden n2
  have HB2 := hidden (HB1.out.trans (hB.mono HB1.out.size))
  clear hB hown2 R1 B hl1 hl2 n1 n2
  go_wp2_with fail
  refine Calls.mono (C.out _ HB2.out) ?_
  rintro e x3 ⟨rfl, hB⟩
  have M1 := hidden (N1.out.later hB)
  have M2 := hidden (N2.out.later hB)
  have HB3 := hidden (HB2.out.trans (hB.mono HB2.out.size))
  clear hB C N1 N2
  go_wp2_with fail
  refine Calls.mono (D.out _ HB3.out) ?_
  rintro e x4 ⟨rfl, hB⟩
  have P1 := hidden (M1.out.later hB)
  have P2 := hidden (M2.out.later hB)
  have HB4 := hidden (HB3.out.trans (hB.mono HB3.out.size))
  clear hB D M1 M2
  have SM := hidden (same (cap := c1) (cap2 := c2) P1.out P2.out)
  rw [decide_eq_true rfl] at SM
  clear P1 P2
  go_wp2_with fail
  refine Calls.mono SM.out ?_
  rintro e x5 ⟨rfl, hB⟩
  have HB5 := hidden (HB4.out.trans (hB.mono HB4.out.size))
  clear hB SM
  go_wp2_with fail
  refine Calls.mono (K.out _ HB5.out) ?_
  rintro e x6 ⟨rfl, hB⟩
  have HB6 := hidden (HB5.out.trans (hB.mono HB5.out.size))
  clear hB K
  go_wp2_with fail
  refine Calls.mono (L.out _ HB6.out) ?_
  rintro e x7 ⟨rfl, hB⟩
  have HB7 := hidden (HB6.out.trans (hB.mono HB6.out.size))
  clear hB L
  go_wp2_with fail
  refine Calls.mono (AW.out _) ?_
  rintro e x8 ⟨rfl, hB⟩
  have HB8 := hidden (HB7.out.trans (hB.mono HB7.out.size))
  clear hB
  go_wp2
  go_ret
  exact ⟨rfl, HB8.out⟩

theorem contract (H : Type) (enc : TypeId × Value → H) (W : World) (base : Nat) (args : Array Value) (ds gs : List (DataW H)) (before : List MemPlace)
    (hval : ∀ (j : Nat) t v, Try.f3.params[j]? = some t → args[j]? = some v → Value.okWide Try.prog W .any base t v)
    (hW : DataW.Whole enc Try.prog Try.f3.params.toList Rows.schedOrdersSpec.vars false W args.toList ds gs before)
    (hsz0 : (DataW.weightsEach Try.prog (Try.f3.params.toList ++ Rows.schedOrdersSpec.plain.varTypes Try.prog) (ds ++ gs)).all (· ≤ reachBytes) = true) :
    Calls Try.prog 3 args W fun e W' => ∃ v, e = .returned v ∧ Rows.schedOrdersSpec.post enc Try.prog Try.f3 false true false false W args v W' := by
  have hW' := hW
  obtain ⟨p, q, hA0, hV, rfl, hfz, hnd⟩ := hW
  have hA : DataW.TrodAll enc Try.prog W 0 (fun _ => true) true Try.f3.params.toList args.toList ds p := hA0
  have hsz := hsz0
  rw [Try.params3] at hA hval hsz
  obtain ⟨v0, vs0, d0, ds0, p0, q0, hargs, rfl, rfl, h0, r0⟩ := trodAll_cons hA
  obtain ⟨v1, vs1, d1, ds1, p1, q1, rfl, rfl, rfl, h1, r1⟩ := trodAll_cons r0
  obtain ⟨v2, vs2, d2, ds2, p2, q2, rfl, rfl, rfl, h2, r2⟩ := trodAll_cons r1
  obtain ⟨rfl, rfl, rfl⟩ := trodAll_nil r2
  obtain rfl : args = #[v0, v1, v2] := by cases args; simp_all
  obtain ⟨rfl, rfl⟩ := trodVars_none hV
  obtain ⟨a0, rfl, rfl, rfl, w0⟩ := open_int Try.underlying3 (hval 0 3 v0 rfl rfl) h0
  obtain ⟨a1, rfl, rfl, rfl, w1⟩ := open_int Try.underlying3 (hval 1 3 v1 rfl rfl) h1
  obtain ⟨a2, len2, cap2, rfl⟩ := okWide_slice Try.underlying22 (hval 2 22 v2 rfl rfl)
  have k2 := h2
  have lt2 : ∀ x ∈ p2, x.block < W.heap.size := by obtain ⟨m, hm⟩ := k2; exact DataW.trod_lt m _ _ _ hm
  have sz2 : (d2.weights Try.prog 22).all (· ≤ reachBytes) = true := List.all_eq_true.2 fun m hm => List.all_eq_true.1 hsz m (DataW.weights_mem_each (j := 2) rfl rfl m hm)
  obtain ⟨z2, w2, s2⟩ : ∃ zs, Ag.Rows (fun q : Int × Int × Int × Bool => [.int .i64 q.1, .int .i64 q.2.1, .int .i64 q.2.2.1, .bool q.2.2.2]) (fun q => (Lit.int .i64 q.1).wf = true ∧ (Lit.int .i64 q.2.1).wf = true ∧ (Lit.int .i64 q.2.2.1).wf = true) 4 W a2 len2 zs ∧ len2 ≤ cap2 ∧ cap2 * Try.prog.bytesOf 42 ≤ 140737488351232 ∧ (a2 = none → len2 = 0 ∧ cap2 = 0) := by
    obtain ⟨fuel, hf⟩ := h2
    exact Ag.rows_arg kd42 Try.underlying22 (Nat.le_of_ble_eq_true (by kernel_rfl)) hf sz2
  clear hA0 hsz0 hsz
  refine (walk a0 a1 a2 len2 cap2 z2 W w0 w1 w2 s2).mono fun e W' ⟨he, bel⟩ => ?_
  subst he
  exact ⟨_, rfl, _, _, _, [], _, [], hW', trodAll_mk1 (shut_bool Try.underlying4 _), (trodAll_cons_mk (shut_int Try.underlying3 w0) (trodAll_cons_mk (shut_int Try.underlying3 w1) (trodAll_cons_mk (Below.trod laidOut (by kernel_rfl) (of_decide_eq_true (by kernel_rfl)) k2 bel lt2) trodAll_mk0))), rfl, bel.frame _, fun h => by cases h⟩

noncomputable def laidWorld (os : Os) : World :=
  World.holding Try.prog os ⟨#[], #[], []⟩
theorem laid_met (os : Os) : laidMet Try.prog Rows.schedOrdersRow.laid ((laidWorld os).forCall (fun _ _ => 0) ⟨#[], #[.int .i64 0, .int .i64 0, .slice none 0 0], []⟩).memory :=
  laidMet_of_run' 8 (by kernel_rfl) (by kernel_rfl)
theorem reads (os : Os) {H : Type} (enc : TypeId × Value → H) : ∃ places, DataW.whole enc Try.prog ((laidWorld os).forCall (fun _ _ => 0) ⟨#[], #[.int .i64 0, .int .i64 0, .slice none 0 0], []⟩).memory Try.f3.params.toList Rows.schedOrdersSpec.vars false #[Value.int .i64 0, Value.int .i64 0, Value.slice none 0 0].toList 8 = some ([.lit (.int .i64 0), .lit (.int .i64 0), .nil], [], places) :=
  ⟨[], by kernel_rfl⟩

set_option maxRecDepth 100000 in
theorem lifted (os : Os) (started : os.Started) (H : Type) (enc : TypeId × Value → H) (F : Stop.Interp) :
    ReturnsInHanded {} Try.checked os 3 .any ((OpenSpec.ofChange Rows.schedOrdersSpec).preRow enc Try.prog Try.f3 Rows.schedOrdersRow.domain false Rows.schedOrdersRow.laid) (((OpenSpec.ofChange Rows.schedOrdersSpec).at F).post enc Try.prog Try.f3 false true false false) := by
  obtain ⟨places, hx⟩ := reads os enc
  refine returnsInHanded_of_row (C := Try.checked) (s := OpenSpec.ofChange Rows.schedOrdersSpec) own started (by kernel_rfl) Try.func3
    (witness_row_at (enc := enc) (C := Try.checked) false (laidWorld os) #[.int .i64 0, .int .i64 0, .slice none 0 0] rfl (by kernel_rfl) (by kernel_rfl) (by kernel_rfl)
      (OpenSpec.preRow_of_cond 8 hx (by kernel_rfl) (fun k hk => by cases hk) (by kernel_rfl) (laid_met os))) ?_
  intro W base args ds gs before hval hW _ hcond hsz hL _ _
  exact contract H enc W base args ds gs before hval hW hsz

theorem said : Rows.SchedOrdersSaid :=
  OpenClaim.holds_of_cond 3 Try.f3 rfl rfl rfl rfl rfl rfl rfl ⟨rfl, rfl, rfl, rfl, rfl⟩ rfl rfl rfl rfl rfl (by kernel_rfl) Try.func3 (by kernel_rfl)
    (of_decide_eq_true (by kernel_rfl)) (by unfold Func.isWrapper; first | (rw [if_pos (by decide +kernel)]; kernel_rfl) | (rw [if_neg (by decide +kernel)]; exact ⟨rfl, rfl⟩))
    (fun os started H enc _ F => by rw [OpenClaim.pre_eq_preRow]; exact lifted os started H enc F)

/-- THE STATEMENT -/
theorem proved : Rows.SchedOrdersSaid := said
#print axioms proved
end Go.Proofs.Ytcflcibncbipbaa.schedOrders
