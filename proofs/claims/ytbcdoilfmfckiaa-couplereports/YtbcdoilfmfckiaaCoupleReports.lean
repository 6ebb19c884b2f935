/-
  What CoupleReports says of every report is true: all windows behind it are as the document tells them (P13.4). Conditions: none.
-/
import Derived.Test.YtbcdoilfmfckiaaRows
import Derived.WalkKit
import Derived.ProofKit
import Derived.OpenShut
import Derived.ShutString
import Derived.ChangeOld
import Derived.Below
import Derived.SizedLaws
import Derived.Deep.DeepHandedRow
import Derived.LaidLaws
import Derived.ChangeMaps5
import Derived.Test.YtbcdoilfmfckiaaCoT
import Derived.Test.YtbcdoilfmfckiaaCoG
import Derived.Test.YtbcdoilfmfckiaaAg
namespace Go.Proofs.Ytbcdoilfmfckiaa.coupleReports
open Go.ChangeShapes Go.WideShapes Go.ChangeAt Go.RowKit
open Go.ChangeMaps (open_string shut_string)
set_option linter.unusedVariables false

theorem own : ownKnob Try.prog.godebug = none := by kernel_rfl
theorem laidOut : laidOutB Try.prog = true := by kernel_rfl

theorem kd43 : Ag.Kind Try.prog 43 2 (fun q : Int × Int => [.int .i64 q.1, .int .i64 q.2]) (fun q => (Lit.int .i64 q.1).wf = true ∧ (Lit.int .i64 q.2).wf = true) := by
  refine ⟨by kernel_rfl, by decide, fun _ => rfl, fun {H enc W base held fuel cl x} h _ => ?_⟩
  obtain ⟨xs, n, _, _, hcl, hxl, hfield⟩ := DataW.trod_struct Try.underlying43 h
  rw [show Try.prog.cellsOf 43 = 2 by kernel_rfl] at hcl
  match cl, hcl with
  | [v0, v1], _ =>
    match xs, hxl with
    | [y0, y1], _ =>
      have g0 := hfield 0 _ rfl
      simp [show Try.prog.cellsOf 3 = 1 by kernel_rfl] at g0
      obtain ⟨n0, e0, _, w0⟩ := DataW.trod_int Try.underlying3 g0
      simp at e0
      subst e0
      have g1 := hfield 1 _ rfl
      simp [show Try.prog.cellsOf 3 = 1 by kernel_rfl] at g1
      obtain ⟨n1, e1, _, w1⟩ := DataW.trod_int Try.underlying3 g1
      simp at e1
      subst e1
      exact ⟨(n0, n1), rfl, w0, w1⟩
open Ba (hidden Has)
open Ow (Own)
open Co
theorem gl_len {zs : List Fw} {ys : List Int} {m k : Int} : (gl zs ys m k).length ≤ 8 := by
  by_cases hk : okF zs m
  · by_cases hw : whF zs ys k
    · rw [(ge_ok hk hw).2, gw_len]
      exact hk.1.2
    · rw [(ge_arg hk hw).2]
      exact Nat.zero_le _
  · rw [(ge_no hk ys k).2]
    exact Nat.zero_le _
set_option maxHeartbeats 2000000 in
set_option maxRecDepth 20000 in

theorem walk (a0 : Option Addr) (len0 cap0 : Nat) (z0 : List (Int × Int)) (a1 : Option Addr) (len1 cap1 : Nat) (z1 : List (Int)) (a2 : Int) (a3 : Int) (w : World) (w0 : Ag.Rows (fun q : Int × Int => [.int .i64 q.1, .int .i64 q.2]) (fun q => (Lit.int .i64 q.1).wf = true ∧ (Lit.int .i64 q.2).wf = true) 2 w a0 len0 z0) (s0 : len0 ≤ cap0 ∧ cap0 * Try.prog.bytesOf 43 ≤ 140737488351232 ∧ (a0 = none → len0 = 0 ∧ cap0 = 0)) (w1 : Ag.Rows (fun n : Int => [.int .i64 n]) (fun n => (Lit.int .i64 n).wf = true) 1 w a1 len1 z1) (s1 : len1 ≤ cap1 ∧ cap1 * Try.prog.bytesOf 3 ≤ 140737488351232 ∧ (a1 = none → len1 = 0 ∧ cap1 = 0)) (w2 : (Lit.int .i64 a2).wf = true) (w3 : (Lit.int .i64 a3).wf = true) :
    Calls Try.prog 6 #[.slice a0 len0 cap0, .slice a1 len1 cap1, .int .i64 a2, .int .i64 a3] w fun e w' => e = .returned (.bool true) ∧ Below w.heap.size w w' := by
  have AW := hidden Co.alive
  have A := hidden (grownX (cap := cap0) (cap2 := cap1) w0 w1 a2 a3)
  have B : Hid (∀ X, Below w.heap.size w X → Calls Try.prog 21 #[.slice a0 len0 cap0, .slice a1 len1 cap1, .int .i64 a2, .int .i64 a3] X fun e w' => ∃ v, e = .returned (.tuple #[v, .int .i64 (ge z0 z1 a2 a3)]) ∧ w'.ownsRow X.heap.size 43 2 v (gl z0 z1 a2 a3).length (fc (gl z0 z1 a2 a3)) ∧ Below X.heap.size X w') := fun X hX => rGrown (w0.later hX) (w1.later hX) a2 a3
  have H8 := hidden (gl_len (zs := z0) (ys := z1) (m := a2) (k := a3))
  generalize gl z0 z1 a2 a3 = L at *
  generalize ge z0 z1 a2 a3 = E at *
  clear w0 w1 w2 w3 s0 s1
  go_enter Try.func6, Try.ntmps6
  go_wp2_with fail
  refine Calls.mono A.out ?_
  rintro e w1 ⟨v1, rfl, o1, hB⟩
  have O1 := hidden o1
  have HB1 := hidden hB
  clear o1 hB A
  go_wp2_with fail
  refine Calls.mono (B.out _ HB1.out) ?_
  rintro e w2 ⟨v2, rfl, o2, hB⟩
  have SM := hidden (rSame (row_below O1.out hB) o2 H8.out)
  have HB2 := hidden (HB1.out.trans (hB.mono HB1.out.size))
  clear o2 hB B
  go_wp2_with fail
  refine Calls.mono SM.out ?_
  rintro e w3 ⟨rfl, hB⟩
  have HB3 := hidden (HB2.out.trans (hB.mono HB2.out.size))
  clear hB SM
  go_wp2_with fail
  refine Calls.mono (AW.out _) ?_
  rintro e w4 ⟨rfl, hB⟩
  have HB4 := hidden (HB3.out.trans (hB.mono HB3.out.size))
  clear hB
  go_wp2
  go_ret
  exact ⟨by first | rfl | simp, HB4.out⟩

theorem contract (H : Type) (enc : TypeId × Value → H) (W : World) (base : Nat) (args : Array Value) (ds gs : List (DataW H)) (before : List MemPlace)
    (hval : ∀ (j : Nat) t v, Try.f6.params[j]? = some t → args[j]? = some v → Value.okWide Try.prog W .any base t v)
    (hW : DataW.Whole enc Try.prog Try.f6.params.toList Rows.coupleReportsSpec.vars false W args.toList ds gs before)
    (hsz0 : (DataW.weightsEach Try.prog (Try.f6.params.toList ++ Rows.coupleReportsSpec.plain.varTypes Try.prog) (ds ++ gs)).all (· ≤ reachBytes) = true) :
    Calls Try.prog 6 args W fun e W' => ∃ v, e = .returned v ∧ Rows.coupleReportsSpec.post enc Try.prog Try.f6 false true false false W args v W' := by
  have hW' := hW
  obtain ⟨p, q, hA0, hV, rfl, hfz, hnd⟩ := hW
  have hA : DataW.TrodAll enc Try.prog W 0 (fun _ => true) true Try.f6.params.toList args.toList ds p := hA0
  have hsz := hsz0
  rw [Try.params6] at hA hval hsz
  obtain ⟨v0, vs0, d0, ds0, p0, q0, hargs, rfl, rfl, h0, r0⟩ := trodAll_cons hA
  obtain ⟨v1, vs1, d1, ds1, p1, q1, rfl, rfl, rfl, h1, r1⟩ := trodAll_cons r0
  obtain ⟨v2, vs2, d2, ds2, p2, q2, rfl, rfl, rfl, h2, r2⟩ := trodAll_cons r1
  obtain ⟨v3, vs3, d3, ds3, p3, q3, rfl, rfl, rfl, h3, r3⟩ := trodAll_cons r2
  obtain ⟨rfl, rfl, rfl⟩ := trodAll_nil r3
  obtain rfl : args = #[v0, v1, v2, v3] := by cases args; simp_all
  obtain ⟨rfl, rfl⟩ := trodVars_none hV
  obtain ⟨a0, len0, cap0, rfl⟩ := okWide_slice Try.underlying22 (hval 0 22 v0 rfl rfl)
  have k0 := h0
  have lt0 : ∀ x ∈ p0, x.block < W.heap.size := by obtain ⟨m, hm⟩ := k0; exact DataW.trod_lt m _ _ _ hm
  have sz0 : (d0.weights Try.prog 22).all (· ≤ reachBytes) = true := List.all_eq_true.2 fun m hm => List.all_eq_true.1 hsz m (DataW.weights_mem_each (j := 0) rfl rfl m hm)
  obtain ⟨z0, w0, s0⟩ : ∃ zs, Ag.Rows (fun q : Int × Int => [.int .i64 q.1, .int .i64 q.2]) (fun q => (Lit.int .i64 q.1).wf = true ∧ (Lit.int .i64 q.2).wf = true) 2 W a0 len0 zs ∧ len0 ≤ cap0 ∧ cap0 * Try.prog.bytesOf 43 ≤ 140737488351232 ∧ (a0 = none → len0 = 0 ∧ cap0 = 0) := by
    obtain ⟨fuel, hf⟩ := h0
    exact Ag.rows_arg kd43 Try.underlying22 (Nat.le_of_ble_eq_true (by kernel_rfl)) hf sz0
  obtain ⟨a1, len1, cap1, rfl⟩ := okWide_slice Try.underlying35 (hval 1 35 v1 rfl rfl)
  have k1 := h1
  have lt1 : ∀ x ∈ p1, x.block < W.heap.size := by obtain ⟨m, hm⟩ := k1; exact DataW.trod_lt m _ _ _ hm
  have sz1 : (d1.weights Try.prog 35).all (· ≤ reachBytes) = true := List.all_eq_true.2 fun m hm => List.all_eq_true.1 hsz m (DataW.weights_mem_each (j := 1) rfl rfl m hm)
  obtain ⟨z1, w1, s1⟩ : ∃ zs, Ag.Rows (fun n : Int => [.int .i64 n]) (fun n => (Lit.int .i64 n).wf = true) 1 W a1 len1 zs ∧ len1 ≤ cap1 ∧ cap1 * Try.prog.bytesOf 3 ≤ 140737488351232 ∧ (a1 = none → len1 = 0 ∧ cap1 = 0) := by
    obtain ⟨fuel, hf⟩ := h1
    exact Ag.rows_arg (Ag.kind_int Try.underlying3 (by kernel_rfl)) Try.underlying35 (Nat.le_of_ble_eq_true (by kernel_rfl)) hf sz1
  obtain ⟨a2, rfl, rfl, rfl, w2⟩ := open_int Try.underlying3 (hval 2 3 v2 rfl rfl) h2
  obtain ⟨a3, rfl, rfl, rfl, w3⟩ := open_int Try.underlying3 (hval 3 3 v3 rfl rfl) h3
  clear hA0 hsz0 hsz
  refine (walk a0 len0 cap0 z0 a1 len1 cap1 z1 a2 a3 W w0 s0 w1 s1 w2 w3).mono fun e W' ⟨he, bel⟩ => ?_
  subst he
  exact ⟨_, rfl, _, _, _, [], _, [], hW', trodAll_mk1 (shut_bool Try.underlying4 _), (trodAll_cons_mk (Below.trod laidOut (by kernel_rfl) (of_decide_eq_true (by kernel_rfl)) k0 bel lt0) (trodAll_cons_mk (Below.trod laidOut (by kernel_rfl) (of_decide_eq_true (by kernel_rfl)) k1 bel lt1) (trodAll_cons_mk (shut_int Try.underlying3 w2) (trodAll_cons_mk (shut_int Try.underlying3 w3) trodAll_mk0)))), rfl, bel.frame _, fun h => by cases h⟩

noncomputable def laidWorld (os : Os) : World :=
  World.holding Try.prog os ⟨#[], #[], []⟩
theorem laid_met (os : Os) : laidMet Try.prog Rows.coupleReportsRow.laid ((laidWorld os).forCall (fun _ _ => 0) ⟨#[], #[.slice none 0 0, .slice none 0 0, .int .i64 0, .int .i64 0], []⟩).memory :=
  laidMet_of_run' 8 (by kernel_rfl) (by kernel_rfl)
theorem reads (os : Os) {H : Type} (enc : TypeId × Value → H) : ∃ places, DataW.whole enc Try.prog ((laidWorld os).forCall (fun _ _ => 0) ⟨#[], #[.slice none 0 0, .slice none 0 0, .int .i64 0, .int .i64 0], []⟩).memory Try.f6.params.toList Rows.coupleReportsSpec.vars false #[Value.slice none 0 0, Value.slice none 0 0, Value.int .i64 0, Value.int .i64 0].toList 8 = some ([.nil, .nil, .lit (.int .i64 0), .lit (.int .i64 0)], [], places) :=
  ⟨[], by kernel_rfl⟩

set_option maxRecDepth 100000 in
theorem lifted (os : Os) (started : os.Started) (H : Type) (enc : TypeId × Value → H) (F : Stop.Interp) :
    ReturnsInHanded {} Try.checked os 6 .any ((OpenSpec.ofChange Rows.coupleReportsSpec).preRow enc Try.prog Try.f6 Rows.coupleReportsRow.domain false Rows.coupleReportsRow.laid) (((OpenSpec.ofChange Rows.coupleReportsSpec).at F).post enc Try.prog Try.f6 false true false false) := by
  obtain ⟨places, hx⟩ := reads os enc
  refine returnsInHanded_of_row (C := Try.checked) (s := OpenSpec.ofChange Rows.coupleReportsSpec) own started (by kernel_rfl) Try.func6
    (witness_row_at (enc := enc) (C := Try.checked) false (laidWorld os) #[.slice none 0 0, .slice none 0 0, .int .i64 0, .int .i64 0] rfl (by kernel_rfl) (by kernel_rfl) (by kernel_rfl)
      (OpenSpec.preRow_of_cond 8 hx (by kernel_rfl) (fun k hk => by cases hk) (by kernel_rfl) (laid_met os))) ?_
  intro W base args ds gs before hval hW _ hcond hsz hL _ _
  exact contract H enc W base args ds gs before hval hW hsz

theorem said : Rows.CoupleReportsSaid :=
  OpenClaim.holds_of_cond 6 Try.f6 rfl rfl rfl rfl rfl rfl rfl ⟨rfl, rfl, rfl, rfl, rfl⟩ rfl rfl rfl rfl rfl (by kernel_rfl) Try.func6 (by kernel_rfl)
    (of_decide_eq_true (by kernel_rfl)) (by unfold Func.isWrapper; first | (rw [if_pos (by decide +kernel)]; kernel_rfl) | (rw [if_neg (by decide +kernel)]; exact ⟨rfl, rfl⟩))
    (fun os started H enc _ F => by rw [OpenClaim.pre_eq_preRow]; exact lifted os started H enc F)

/-- THE STATEMENT -/
theorem proved : Rows.CoupleReportsSaid := said
#print axioms proved
end Go.Proofs.Ytbcdoilfmfckiaa.coupleReports
