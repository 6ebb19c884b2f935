/-
  What SplitPuts says of every call is true: May and Put answer as the document says, whatever shares, path, size and numbers come in, and what is handed in is as it was (P14.2). Conditions: none.
-/
import Derived.Test.YtbnmcjajhcgcnaaRows
import Derived.WalkKit
import Derived.ProofKit
import Derived.OpenShut
import Derived.ShutString
import Derived.ChangeOld
import Derived.Below
import Derived.SizedLaws
import Derived.Deep.DeepHandedRow
import Derived.LaidLaws
import Derived.ChangeMaps5
import Derived.Test.YtbnmcjajhcgcnaaShG
import Derived.Test.YtbnmcjajhcgcnaaAg
namespace Go.Proofs.Ytbnmcjajhcgcnaa.splitPuts
open Go.ChangeShapes Go.WideShapes Go.ChangeAt Go.RowKit
open Go.ChangeMaps (open_string shut_string)
set_option linter.unusedVariables false

theorem own : ownKnob Try.prog.godebug = none := by kernel_rfl
theorem laidOut : laidOutB Try.prog = true := by kernel_rfl

theorem kd23 : Ag.Kind Try.prog 23 3 (fun q : Int × Int × Int => [.int .i64 q.1, .int .i64 q.2.1, .int .i64 q.2.2]) (fun q => (Lit.int .i64 q.1).wf = true ∧ (Lit.int .i64 q.2.1).wf = true ∧ (Lit.int .i64 q.2.2).wf = true) := by
  refine ⟨by kernel_rfl, by decide, fun _ => rfl, fun {H enc W base held fuel cl x} h _ => ?_⟩
  obtain ⟨xs, n, _, _, hcl, hxl, hfield⟩ := DataW.trod_struct Try.underlying23 h
  rw [show Try.prog.cellsOf 23 = 3 by kernel_rfl] at hcl
  match cl, hcl with
  | [v0, v1, v2], _ =>
    match xs, hxl with
    | [y0, y1, y2], _ =>
      have g0 := hfield 0 _ rfl
      simp [show Try.prog.cellsOf 3 = 1 by kernel_rfl] at g0
      obtain ⟨n0, e0, _, w0⟩ := DataW.trod_int Try.underlying3 g0
      simp at e0
      subst e0
      have g1 := hfield 1 _ rfl
      simp [show Try.prog.cellsOf 3 = 1 by kernel_rfl] at g1
      obtain ⟨n1, e1, _, w1⟩ := DataW.trod_int Try.underlying3 g1
      simp at e1
      subst e1
      have g2 := hfield 2 _ rfl
      simp [show Try.prog.cellsOf 3 = 1 by kernel_rfl] at g2
      obtain ⟨n2, e2, _, w2⟩ := DataW.trod_int Try.underlying3 g2
      simp at e2
      subst e2
      exact ⟨(n0, n1, n2), rfl, w0, w1, w2⟩
open Ba (hidden Has)
open Ow (Own)
open Sh
theorem of_wf {x : Int} (h : (Lit.int .i64 x).wf = true) : -9223372036854775808 ≤ x ∧ x ≤ 9223372036854775807 := by
  simp [Lit.wf, IntKind.min, IntKind.max, IntKind.signed, IntKind.bits] at h
  omega
set_option maxRecDepth 20000 in
set_option maxHeartbeats 4000000 in

theorem walk (q0 : Int × Int × Int) (a1 : Int) (a2 : Int) (a3 : Option Addr) (len3 cap3 : Nat) (z3 : List (Int)) (w : World) (w0 : (fun q => (Lit.int .i64 q.1).wf = true ∧ (Lit.int .i64 q.2.1).wf = true ∧ (Lit.int .i64 q.2.2).wf = true) q0) (w1 : (Lit.int .i64 a1).wf = true) (w2 : (Lit.int .i64 a2).wf = true) (w3 : Ag.Rows (fun n : Int => [.int .i64 n]) (fun n => (Lit.int .i64 n).wf = true) 1 w a3 len3 z3) (s3 : len3 ≤ cap3 ∧ cap3 * Try.prog.bytesOf 3 ≤ 140737488351232 ∧ (a3 = none → len3 = 0 ∧ cap3 = 0)) :
    Calls Try.prog 4 #[.agg ((fun q : Int × Int × Int => [.int .i64 q.1, .int .i64 q.2.1, .int .i64 q.2.2]) q0).toArray, .int .i64 a1, .int .i64 a2, .slice a3 len3 cap3] w fun e w' => e = .returned (.bool true) ∧ Below w.heap.size w w' := by
  obtain ⟨B, P, M⟩ := q0
  have hp := of_wf w1
  have hn : len3 ≤ 140737488355328 := w3.2.2.1
  have hcb : len3 * 8 ≤ 140737488355328 := by
    have h1 := s3.2.1
    rw [show Try.prog.bytesOf 3 = 8 by kernel_rfl] at h1
    have := s3.1
    omega
  have MA : Hid (∀ X, Below w.heap.size w X → Calls Try.prog 18 #[.agg #[.int .i64 B, .int .i64 P, .int .i64 M], .int .i64 a1, .slice a3 len3 cap3] X fun e w' => e = .returned (.tuple #[.bool (mV B P M z3 a1), .int .i64 (mE B P M z3 a1)]) ∧ Below X.heap.size X w') := fun X hX => may (w3.later hX) B P M hp
  have RM : Hid (∀ X, Below w.heap.size w X → Calls Try.prog 19 #[.agg #[.int .i64 B, .int .i64 P, .int .i64 M], .int .i64 a1, .slice a3 len3 cap3] X fun e w' => e = .returned (.tuple #[.bool (mV B P M z3 a1), .int .i64 (mE B P M z3 a1)]) ∧ Below X.heap.size X w') := fun X hX => rMay (w3.later hX) B P M a1
  have PU : Hid (∀ X a n c, Nu X a n z3 → Calls Try.prog 20 #[.agg #[.int .i64 B, .int .i64 P, .int .i64 M], .int .i64 a1, .int .i64 a2, .slice a n c] X fun e w' => RowO X w' e (pV B P M z3 a1 a2) (pE B P M z3 a1 a2)) := fun X a n c hX => put hX hp
  have RP : Hid (∀ X, Below w.heap.size w X → Calls Try.prog 21 #[.agg #[.int .i64 B, .int .i64 P, .int .i64 M], .int .i64 a1, .int .i64 a2, .slice a3 len3 cap3] X fun e w' => RowO X w' e (pV B P M z3 a1 a2) (pE B P M z3 a1 a2)) := fun X hX => rPut (w3.later hX)
  have CO : Hid (∀ X : World, Below w.heap.size w X → ∃ v' w', (Builtin.append_ #[24, 24] 24 #[.slice (some ⟨X.heap.size, 0, none⟩) 0 0, .slice a3 len3 cap3]).run Try.prog (X.alloc (.cells #[] 3)) = .ok v' w' ∧ w'.ownsRow X.heap.size 3 1 v' len3 (lc z3) ∧ Below X.heap.size X w') := fun X hX => copy_any (w3.later hX) s3.2.2 hcb
  have AW := hidden Sh.awake
  have O := hidden ((Own.refl w).alloc #[.int .i64 B, .int .i64 P, .int .i64 M] 23)
  have H := hidden w3
  clear w0 w1 w2 w3 s3 hp hcb
  generalize mV B P M z3 a1 = mv at *
  generalize mE B P M z3 a1 = me at *
  generalize pV B P M z3 a1 a2 = L at *
  generalize pE B P M z3 a1 a2 = pe at *
  go_enter Try.func4, Try.ntmps4
  go_wp2_with fail
  refine Calls.mono (MA.out _ O.out.below) ?_
  rintro e w1 ⟨rfl, hB⟩
  have O1 := hidden (O.out.later hB)
  obtain ⟨c0, c1, c2⟩ := cells3 O1.out (.head _)
  clear hB O MA
  go_wp2_with fail
  refine Calls.mono (RM.out _ O1.out.below) ?_
  rintro e w2 ⟨rfl, hB⟩
  have O2 := hidden (O1.out.later hB)
  clear hB O1 RM c0 c1 c2
  obtain ⟨v', w3, hr, hown, hB⟩ := CO.out w2 O2.out.below
  have HR := hidden hr
  have O3 := hidden (O2.out.later hB)
  obtain ⟨ao, co, rfl, hnu⟩ := Nu.own hown H.out.2.1 hn
  have NO := hidden hnu
  clear hr hown hB O2 CO hnu
  obtain ⟨c0, c1, c2⟩ := cells3 O3.out (.head _)
  go_wp2_with (at_builtin; refine Rg.wpList_app rfl (.tmp 32) (.tmp 33) 24 rfl rfl rfl HR.out ?_; clear HR)
  refine Calls.mono (PU.out _ _ _ _ NO.out) ?_
  rintro e w4 ⟨ax, kx, cx, rfl, hx, hB⟩
  have O4 := hidden (O3.out.later hB)
  have NX := hidden hx
  have NO4 := hidden (NO.out.later hB)
  clear hB O3 PU c0 c1 c2 hx NO
  obtain ⟨c0, c1, c2⟩ := cells3 O4.out (.head _)
  go_wp2_with fail
  refine Calls.mono (RP.out _ O4.out.below) ?_
  rintro e w5 ⟨ay, ky, cy, rfl, hy, hB⟩
  have O5 := hidden (O4.out.later hB)
  have NO5 := hidden (NO4.out.later hB)
  have SA := hidden (same (cap := cx) (cap2 := cy) (NX.out.later hB) hy)
  rw [decide_eq_true rfl] at SA
  clear hB O4 RP c0 c1 c2 hy NX NO4
  go_wp2_with fail
  refine Calls.mono SA.out ?_
  rintro e w6 ⟨rfl, hB⟩
  have O6 := hidden (O5.out.later hB)
  have SB := hidden (same (cap := co) (cap2 := cap3) (NO5.out.later hB) (H.out.later O6.out.below))
  rw [decide_eq_true rfl] at SB
  clear hB O5 SA NO5
  go_wp2_with fail
  refine Calls.mono SB.out ?_
  rintro e w7 ⟨rfl, hB⟩
  have O7 := hidden (O6.out.later hB)
  clear hB O6 SB
  go_wp2_with fail
  refine Calls.mono (AW.out _) ?_
  rintro e w8 ⟨rfl, hB⟩
  have O8 := hidden (O7.out.later hB)
  clear hB O7 AW
  go_wp2
  go_ret
  exact ⟨rfl, O8.out.below⟩

theorem contract (H : Type) (enc : TypeId × Value → H) (W : World) (base : Nat) (args : Array Value) (ds gs : List (DataW H)) (before : List MemPlace)
    (hval : ∀ (j : Nat) t v, Try.f4.params[j]? = some t → args[j]? = some v → Value.okWide Try.prog W .any base t v)
    (hW : DataW.Whole enc Try.prog Try.f4.params.toList Rows.splitPutsSpec.vars false W args.toList ds gs before)
    (hsz0 : (DataW.weightsEach Try.prog (Try.f4.params.toList ++ Rows.splitPutsSpec.plain.varTypes Try.prog) (ds ++ gs)).all (· ≤ reachBytes) = true) :
    Calls Try.prog 4 args W fun e W' => ∃ v, e = .returned v ∧ Rows.splitPutsSpec.post enc Try.prog Try.f4 false true false false W args v W' := by
  have hW' := hW
  obtain ⟨p, q, hA0, hV, rfl, hfz, hnd⟩ := hW
  have hA : DataW.TrodAll enc Try.prog W 0 (fun _ => true) true Try.f4.params.toList args.toList ds p := hA0
  have hsz := hsz0
  rw [Try.params4] at hA hval hsz
  obtain ⟨v0, vs0, d0, ds0, p0, q0, hargs, rfl, rfl, h0, r0⟩ := trodAll_cons hA
  obtain ⟨v1, vs1, d1, ds1, p1, q1, rfl, rfl, rfl, h1, r1⟩ := trodAll_cons r0
  obtain ⟨v2, vs2, d2, ds2, p2, q2, rfl, rfl, rfl, h2, r2⟩ := trodAll_cons r1
  obtain ⟨v3, vs3, d3, ds3, p3, q3, rfl, rfl, rfl, h3, r3⟩ := trodAll_cons r2
  obtain ⟨rfl, rfl, rfl⟩ := trodAll_nil r3
  obtain rfl : args = #[v0, v1, v2, v3] := by cases args; simp_all
  obtain ⟨rfl, rfl⟩ := trodVars_none hV
  have k0 := h0
  have lt0 : ∀ x ∈ p0, x.block < W.heap.size := by obtain ⟨m, hm⟩ := k0; exact DataW.trod_lt m _ _ _ hm
  have sz0 : (d0.weights Try.prog 23).all (· ≤ reachBytes) = true := List.all_eq_true.2 fun m hm => List.all_eq_true.1 hsz m (DataW.weights_mem_each (j := 0) rfl rfl m hm)
  obtain ⟨q0, rfl, w0⟩ : ∃ q, v0 = .agg ((fun q : Int × Int × Int => [.int .i64 q.1, .int .i64 q.2.1, .int .i64 q.2.2]) q).toArray ∧ (fun q => (Lit.int .i64 q.1).wf = true ∧ (Lit.int .i64 q.2.1).wf = true ∧ (Lit.int .i64 q.2.2).wf = true) q := by
    obtain ⟨fuel, hf⟩ := h0
    exact Ag.one_arg kd23 Try.underlying23 (hval 0 23 v0 rfl rfl) hf sz0
  obtain ⟨a1, rfl, rfl, rfl, w1⟩ := open_int Try.underlying3 (hval 1 3 v1 rfl rfl) h1
  obtain ⟨a2, rfl, rfl, rfl, w2⟩ := open_int Try.underlying3 (hval 2 3 v2 rfl rfl) h2
  obtain ⟨a3, len3, cap3, rfl⟩ := okWide_slice Try.underlying24 (hval 3 24 v3 rfl rfl)
  have k3 := h3
  have lt3 : ∀ x ∈ p3, x.block < W.heap.size := by obtain ⟨m, hm⟩ := k3; exact DataW.trod_lt m _ _ _ hm
  have sz3 : (d3.weights Try.prog 24).all (· ≤ reachBytes) = true := List.all_eq_true.2 fun m hm => List.all_eq_true.1 hsz m (DataW.weights_mem_each (j := 3) rfl rfl m hm)
  obtain ⟨z3, w3, s3⟩ : ∃ zs, Ag.Rows (fun n : Int => [.int .i64 n]) (fun n => (Lit.int .i64 n).wf = true) 1 W a3 len3 zs ∧ len3 ≤ cap3 ∧ cap3 * Try.prog.bytesOf 3 ≤ 140737488351232 ∧ (a3 = none → len3 = 0 ∧ cap3 = 0) := by
    obtain ⟨fuel, hf⟩ := h3
    exact Ag.rows_arg (Ag.kind_int Try.underlying3 (by kernel_rfl)) Try.underlying24 (Nat.le_of_ble_eq_true (by kernel_rfl)) hf sz3
  clear hA0 hsz0 hsz
  refine (walk q0 a1 a2 a3 len3 cap3 z3 W w0 w1 w2 w3 s3).mono fun e W' ⟨he, bel⟩ => ?_
  subst he
  exact ⟨_, rfl, _, _, _, [], _, [], hW', trodAll_mk1 (shut_bool Try.underlying4 _), (trodAll_cons_mk (Below.trod laidOut (by kernel_rfl) (of_decide_eq_true (by kernel_rfl)) k0 bel lt0) (trodAll_cons_mk (shut_int Try.underlying3 w1) (trodAll_cons_mk (shut_int Try.underlying3 w2) (trodAll_cons_mk (Below.trod laidOut (by kernel_rfl) (of_decide_eq_true (by kernel_rfl)) k3 bel lt3) trodAll_mk0)))), rfl, bel.frame _, fun h => by cases h⟩

noncomputable def laidWorld (os : Os) : World :=
  World.holding Try.prog os ⟨#[], #[], []⟩
theorem laid_met (os : Os) : laidMet Try.prog Rows.splitPutsRow.laid ((laidWorld os).forCall (fun _ _ => 0) ⟨#[], #[.agg #[.int .i64 0, .int .i64 0, .int .i64 0], .int .i64 0, .int .i64 0, .slice none 0 0], []⟩).memory :=
  laidMet_of_run' 8 (by kernel_rfl) (by kernel_rfl)
theorem reads (os : Os) {H : Type} (enc : TypeId × Value → H) : ∃ places, DataW.whole enc Try.prog ((laidWorld os).forCall (fun _ _ => 0) ⟨#[], #[.agg #[.int .i64 0, .int .i64 0, .int .i64 0], .int .i64 0, .int .i64 0, .slice none 0 0], []⟩).memory Try.f4.params.toList Rows.splitPutsSpec.vars false #[Value.agg #[.int .i64 0, .int .i64 0, .int .i64 0], Value.int .i64 0, Value.int .i64 0, Value.slice none 0 0].toList 8 = some ([.agg [.lit (.int .i64 0), .lit (.int .i64 0), .lit (.int .i64 0)], .lit (.int .i64 0), .lit (.int .i64 0), .nil], [], places) :=
  ⟨[], by kernel_rfl⟩

set_option maxRecDepth 100000 in
theorem lifted (os : Os) (started : os.Started) (H : Type) (enc : TypeId × Value → H) (F : Stop.Interp) :
    ReturnsInHanded {} Try.checked os 4 .any ((OpenSpec.ofChange Rows.splitPutsSpec).preRow enc Try.prog Try.f4 Rows.splitPutsRow.domain false Rows.splitPutsRow.laid) (((OpenSpec.ofChange Rows.splitPutsSpec).at F).post enc Try.prog Try.f4 false true false false) := by
  obtain ⟨places, hx⟩ := reads os enc
  refine returnsInHanded_of_row (C := Try.checked) (s := OpenSpec.ofChange Rows.splitPutsSpec) own started (by kernel_rfl) Try.func4
    (witness_row_at (enc := enc) (C := Try.checked) false (laidWorld os) #[.agg #[.int .i64 0, .int .i64 0, .int .i64 0], .int .i64 0, .int .i64 0, .slice none 0 0] rfl (by kernel_rfl) (by kernel_rfl) (by kernel_rfl)
      (OpenSpec.preRow_of_cond 8 hx (by kernel_rfl) (fun k hk => by cases hk) (by kernel_rfl) (laid_met os))) ?_
  intro W base args ds gs before hval hW _ hcond hsz hL _ _
  exact contract H enc W base args ds gs before hval hW hsz

theorem said : Rows.SplitPutsSaid :=
  OpenClaim.holds_of_cond 4 Try.f4 rfl rfl rfl rfl rfl rfl rfl ⟨rfl, rfl, rfl, rfl, rfl⟩ rfl rfl rfl rfl rfl (by kernel_rfl) Try.func4 (by kernel_rfl)
    (of_decide_eq_true (by kernel_rfl)) (by unfold Func.isWrapper; first | (rw [if_pos (by decide +kernel)]; kernel_rfl) | (rw [if_neg (by decide +kernel)]; exact ⟨rfl, rfl⟩))
    (fun os started H enc _ F => by rw [OpenClaim.pre_eq_preRow]; exact lifted os started H enc F)

/-- THE STATEMENT -/
theorem proved : Rows.SplitPutsSaid := said
#print axioms proved
end Go.Proofs.Ytbnmcjajhcgcnaa.splitPuts
