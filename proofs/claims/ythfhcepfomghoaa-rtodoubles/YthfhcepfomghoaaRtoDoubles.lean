/-
  What RtoDoubles says of every call is true: behind some backoffs the timeout is so many times doubled, within the bounds, nothing else has changed, and a measurement makes it that of the estimate again (P10.6). Conditions: none.
-/
import Derived.Test.YthfhcepfomghoaaRows
import Derived.WalkKit
import Derived.ProofKit
import Derived.OpenShut
import Derived.ShutString
import Derived.ChangeOld
import Derived.Below
import Derived.SizedLaws
import Derived.Deep.DeepHandedRow
import Derived.LaidLaws
import Derived.ChangeMaps5
import Derived.Test.YthfhcepfomghoaaRtG
import Derived.Test.YthfhcepfomghoaaAg
namespace Go.Proofs.Ythfhcepfomghoaa.rtoDoubles
open Go.ChangeShapes Go.WideShapes Go.ChangeAt Go.RowKit
open Go.ChangeMaps (open_string shut_string)
set_option linter.unusedVariables false

theorem own : ownKnob Try.prog.godebug = none := by kernel_rfl
theorem laidOut : laidOutB Try.prog = true := by kernel_rfl

theorem kd23 : Ag.Kind Try.prog 23 3 (fun q : Int × Int × Int => [.int .i64 q.1, .int .i64 q.2.1, .int .i64 q.2.2]) (fun q => (Lit.int .i64 q.1).wf = true ∧ (Lit.int .i64 q.2.1).wf = true ∧ (Lit.int .i64 q.2.2).wf = true) := by
  refine ⟨by kernel_rfl, by decide, fun _ => rfl, fun {H enc W base held fuel cl x} h _ => ?_⟩
  obtain ⟨xs, n, _, _, hcl, hxl, hfield⟩ := DataW.trod_struct Try.underlying23 h
  rw [show Try.prog.cellsOf 23 = 3 by kernel_rfl] at hcl
  match cl, hcl with
  | [v0, v1, v2], _ =>
    match xs, hxl with
    | [y0, y1, y2], _ =>
      have g0 := hfield 0 _ rfl
      simp [show Try.prog.cellsOf 3 = 1 by kernel_rfl] at g0
      obtain ⟨n0, e0, _, w0⟩ := DataW.trod_int Try.underlying3 g0
      simp at e0
      subst e0
      have g1 := hfield 1 _ rfl
      simp [show Try.prog.cellsOf 3 = 1 by kernel_rfl] at g1
      obtain ⟨n1, e1, _, w1⟩ := DataW.trod_int Try.underlying3 g1
      simp at e1
      subst e1
      have g2 := hfield 2 _ rfl
      simp [show Try.prog.cellsOf 3 = 1 by kernel_rfl] at g2
      obtain ⟨n2, e2, _, w2⟩ := DataW.trod_int Try.underlying3 g2
      simp at e2
      subst e2
      exact ⟨(n0, n1, n2), rfl, w0, w1, w2⟩
theorem kd25 : Ag.Kind Try.prog 25 4 (fun q : Bool × Int × Int × Int => [.bool q.1, .int .i64 q.2.1, .int .i64 q.2.2.1, .int .i64 q.2.2.2]) (fun q => (Lit.int .i64 q.2.1).wf = true ∧ (Lit.int .i64 q.2.2.1).wf = true ∧ (Lit.int .i64 q.2.2.2).wf = true) := by
  refine ⟨by kernel_rfl, by decide, fun _ => rfl, fun {H enc W base held fuel cl x} h _ => ?_⟩
  obtain ⟨xs, n, _, _, hcl, hxl, hfield⟩ := DataW.trod_struct Try.underlying25 h
  rw [show Try.prog.cellsOf 25 = 4 by kernel_rfl] at hcl
  match cl, hcl with
  | [v0, v1, v2, v3], _ =>
    match xs, hxl with
    | [y0, y1, y2, y3], _ =>
      have g0 := hfield 0 _ rfl
      simp [show Try.prog.cellsOf 4 = 1 by kernel_rfl] at g0
      obtain ⟨n0, e0, _⟩ := DataW.trod_bool Try.underlying4 g0
      simp at e0
      subst e0
      have g1 := hfield 1 _ rfl
      simp [show Try.prog.cellsOf 3 = 1 by kernel_rfl] at g1
      obtain ⟨n1, e1, _, w1⟩ := DataW.trod_int Try.underlying3 g1
      simp at e1
      subst e1
      have g2 := hfield 2 _ rfl
      simp [show Try.prog.cellsOf 3 = 1 by kernel_rfl] at g2
      obtain ⟨n2, e2, _, w2⟩ := DataW.trod_int Try.underlying3 g2
      simp at e2
      subst e2
      have g3 := hfield 3 _ rfl
      simp [show Try.prog.cellsOf 3 = 1 by kernel_rfl] at g3
      obtain ⟨n3, e3, _, w3⟩ := DataW.trod_int Try.underlying3 g3
      simp at e3
      subst e3
      exact ⟨(n0, n1, n2, n3), rfl, w1, w2, w3⟩
open Ba (hidden Has)
open Ow (Own)
open Rt
theorem bo_step {i mi ma : Int} {k : Bool} {s v t : Int} (h : chk i mi ma k s v t = 0) : bo i mi ma k s v t = (k, s, v, min (2 * t) ma, 0) ∧ chk i mi ma k s v (min (2 * t) ma) = 0 ∧ (0 ≤ t ∧ t ≤ 1048576) := by
  obtain ⟨h1, h2, h3, h4⟩ := chk_zero h
  exact ⟨by unfold bo; rw [if_pos h], (chk0 (decide_eq_true h1) h2 (by omega) h4).symm, by omega⟩
theorem ms_any {i mi ma : Int} {k : Bool} {s v t t' n : Int} (h : chk i mi ma k s v t = 0) (h' : chk i mi ma k s v t' = 0) : ms i mi ma k s v t' n = ms i mi ma k s v t n := by
  unfold ms
  rw [if_pos h, if_pos h']
set_option maxHeartbeats 2000000 in

theorem walk (q0 : Int × Int × Int) (q1 : Bool × Int × Int × Int) (a2 : Int) (a3 : Int) (w : World) (w0 : (fun q => (Lit.int .i64 q.1).wf = true ∧ (Lit.int .i64 q.2.1).wf = true ∧ (Lit.int .i64 q.2.2).wf = true) q0) (w1 : (fun q => (Lit.int .i64 q.2.1).wf = true ∧ (Lit.int .i64 q.2.2.1).wf = true ∧ (Lit.int .i64 q.2.2.2).wf = true) q1) (w2 : (Lit.int .i64 a2).wf = true) (w3 : (Lit.int .i64 a3).wf = true) :
    Calls Try.prog 6 #[.agg ((fun q : Int × Int × Int => [.int .i64 q.1, .int .i64 q.2.1, .int .i64 q.2.2]) q0).toArray, .agg ((fun q : Bool × Int × Int × Int => [.bool q.1, .int .i64 q.2.1, .int .i64 q.2.2.1, .int .i64 q.2.2.2]) q1).toArray, .int .i64 a2, .int .i64 a3] w fun e w' => e = .returned (.bool true) ∧ Below w.heap.size w w' := by
  obtain ⟨i, mi, ma⟩ := q0
  obtain ⟨k, s, v, t⟩ := q1
  have AW := hidden Rt.awake
  have RC := hidden (rCheck i mi ma k s v t)
  have O := hidden (own2 w i mi ma k s v t 23)
  clear w0 w1 w2 w3
  by_cases hc : chk i mi ma k s v t = 0
  · rw [hc] at RC
    by_cases hn : 0 ≤ a2 ∧ a2 ≤ 30
    · have HC := hidden hc
      have M1 : Hid (∀ U W, chk i mi ma k s v U = 0 → Calls Try.prog 7 #[.agg #[.int .i64 i, .int .i64 mi, .int .i64 ma], .agg #[.bool k, .int .i64 s, .int .i64 v, .int .i64 U], .int .i64 a3] W fun e w' => e = .returned (tv (ms i mi ma k s v t a3)) ∧ Below W.heap.size W w') := fun U W h => by
        have := measureX i mi ma k s v U a3 W
        rw [ms_any hc h] at this
        exact this
      have BX := hidden (fun U W => backoffX i mi ma k s v U W)
      generalize ms i mi ma k s v t a3 = y at M1
      obtain ⟨y0, y1, y2, y3, y4⟩ := y
      unfold tv at M1
      simp only at M1
      have hn1 := hn.1
      have hn2 := hn.2
      clear hc hn
      go_enter Try.func6, Try.ntmps6
      go_wp2_with fail
      refine Calls.mono (AW.out _) ?_
      rintro e w1 ⟨rfl, hB1⟩
      have P1 := hidden (O.out.later hB1)
      obtain ⟨c0, c1, c2, c3, c4, c5, c6⟩ := cells2 P1.out
      clear hB1 O AW
      go_wp2_with fail
      refine Calls.mono (RC.out _) ?_
      rintro e w2 ⟨rfl, hB2⟩
      have P2 := hidden (P1.out.later hB2)
      clear c0 c1 c2 c3 c4 c5 c6
      obtain ⟨c0, c1, c2, c3, c4, c5, c6⟩ := cells2 P2.out
      have hl2 := P2.out.lt (.head _)
      have hl1 := P2.out.lt (.tail _ (.head _))
      have O2 := hidden (P2.out.alloc #[.bool k, .int .i64 s, .int .i64 v, .int .i64 t] 25)
      clear hB2 P1 RC P2
      go_wp2_with fail
      go_loopw [10, 11] (fun u j wr => ∃ q U : Int, 0 ≤ q ∧ q ≤ a2 ∧ j = .int .i64 q ∧ u = .int .i64 U ∧ Hid (chk i mi ma k s v U = 0) ∧ Hid (Own w wr [(w2.heap.size, #[.bool k, .int .i64 s, .int .i64 v, .int .i64 U], 25), (w.heap.size + 1, #[.bool k, .int .i64 s, .int .i64 v, .int .i64 t], 25), (w.heap.size, #[.int .i64 i, .int .i64 mi, .int .i64 ma], 23)])) (fun _ j _ => a2.toNat - (intOf j).toNat)
      case atStart => exact ⟨0, t, by omega, by omega, rfl, rfl, HC.out, O2.out⟩
      case round =>
        obtain ⟨q, U, j1, j2, rfl, rfl, HU, HO⟩ := hrel
        clear c0 c1 c2 c3 c4 c5 c6
        obtain ⟨⟨c0, c1, c2⟩, hl3⟩ := tim3 HO.out (.tail _ (.tail _ (.head _)))
        obtain ⟨⟨r0, r1, r2, r3⟩, f0, f1, f2, f3⟩ := ans HO.out (b := w2.heap.size) (.head _)
        obtain ⟨⟨d0, d1, d2, d3⟩, _⟩ := ans HO.out (b := w.heap.size + 1) (.tail _ (.head _))
        have hl4 := HO.out.lt (.head _)
        have hl5 := HO.out.lt (.tail _ (.head _))
        by_cases hq : q < a2
        · obtain ⟨e1, e2, hU1, hU2⟩ := bo_step HU.out
          have B1 := hidden (BX.out U)
          rw [e1] at B1
          unfold tv at B1
          simp only at B1
          have E2 := hidden e2
          clear e1 e2
          go_wp2_with fail
          refine Calls.mono (B1.out _) ?_
          rintro e w3 ⟨rfl, hB3⟩
          have P3 := hidden (HO.out.later hB3)
          clear c0 c1 c2 r0 r1 r2 r3 f0 f1 f2 f3 d0 d1 d2 d3
          obtain ⟨⟨c0, c1, c2⟩, hm3⟩ := tim3 P3.out (.tail _ (.tail _ (.head _)))
          obtain ⟨⟨r0, r1, r2, r3⟩, f0, f1, f2, f3⟩ := ans P3.out (b := w2.heap.size) (.head _)
          have hm4 := P3.out.lt (.head _)
          have hm5 := P3.out.lt (.tail _ (.head _))
          clear hB3
          go_wp2
          go_roundw
          case rel =>
            exact ⟨_, _, by omega, by omega, rfl, rfl, E2.out, set4 P3.out (by simp; omega) _ _ _ _ _ _⟩
          case measure => simp [intOf]; omega
        · have hq2 : q = a2 := by omega
          go_wp2_with fail
          refine Calls.mono (M1.out _ _ HU.out) ?_
          rintro e w3 ⟨rfl, hB3⟩
          have P3 := hidden (HO.out.later hB3)
          clear c0 c1 c2 r0 r1 r2 r3 f0 f1 f2 f3 d0 d1 d2 d3
          obtain ⟨⟨c0, c1, c2⟩, hm3⟩ := tim3 P3.out (.tail _ (.tail _ (.head _)))
          obtain ⟨⟨d0, d1, d2, d3⟩, _⟩ := ans P3.out (b := w.heap.size + 1) (.tail _ (.head _))
          have hm4 := P3.out.lt (.head _)
          have hm5 := P3.out.lt (.tail _ (.head _))
          have O3 := hidden (P3.out.alloc #[.bool y0, .int .i64 y1, .int .i64 y2, .int .i64 y3] 25)
          clear hB3 P3
          go_wp2_with fail
          refine Calls.mono (M1.out _ _ HC.out) ?_
          rintro e w4 ⟨rfl, hB4⟩
          have P4 := hidden (O3.out.later hB4)
          have HB := hidden P4.out.below
          clear c0 c1 c2 d0 d1 d2 d3
          obtain ⟨⟨p0, p1, p2, p3⟩, _⟩ := ans P4.out (b := w3.heap.size) (.head _)
          obtain ⟨⟨r0, r1, r2, r3⟩, _⟩ := ans P4.out (b := w2.heap.size) (.tail _ (.head _))
          obtain ⟨⟨d0, d1, d2, d3⟩, _⟩ := ans P4.out (b := w.heap.size + 1) (.tail _ (.tail _ (.head _)))
          have hk3 := P4.out.lt (.head _)
          have hk4 := P4.out.lt (.tail _ (.head _))
          have hk5 := P4.out.lt (.tail _ (.tail _ (.head _)))
          clear hB4 P4 O3
          go_wp2
          go_ret
          exact ⟨rfl, HB.out.alloc HB.out.size _⟩
    · clear hc
      by_cases h0 : a2 < 0
      · clear hn
        go_enter Try.func6, Try.ntmps6
        go_wp2_with fail
        refine Calls.mono (AW.out _) ?_
        rintro e w1 ⟨rfl, hB1⟩
        have P1 := hidden (O.out.later hB1)
        obtain ⟨c0, c1, c2, c3, c4, c5, c6⟩ := cells2 P1.out
        clear hB1 O AW
        go_wp2_with fail
        refine Calls.mono (RC.out _) ?_
        rintro e w2 ⟨rfl, hB2⟩
        have HB := hidden (P1.out.later hB2).below
        clear c0 c1 c2 c3 c4 c5 c6 hB2 P1
        go_wp2
        go_ret
        exact ⟨rfl, HB.out⟩
      · have h1 : 30 < a2 := by omega
        have h2 : 0 ≤ a2 := by omega
        clear hn h0
        go_enter Try.func6, Try.ntmps6
        go_wp2_with fail
        refine Calls.mono (AW.out _) ?_
        rintro e w1 ⟨rfl, hB1⟩
        have P1 := hidden (O.out.later hB1)
        obtain ⟨c0, c1, c2, c3, c4, c5, c6⟩ := cells2 P1.out
        clear hB1 O AW
        go_wp2_with fail
        refine Calls.mono (RC.out _) ?_
        rintro e w2 ⟨rfl, hB2⟩
        have HB := hidden (P1.out.later hB2).below
        clear c0 c1 c2 c3 c4 c5 c6 hB2 P1
        go_wp2
        go_ret
        exact ⟨rfl, HB.out⟩
  · have hc2 : (chk i mi ma k s v t == 0) = false := beq_eq_false_iff_ne.2 hc
    generalize chk i mi ma k s v t = c at RC hc hc2
    go_enter Try.func6, Try.ntmps6
    go_wp2_with fail
    refine Calls.mono (AW.out _) ?_
    rintro e w1 ⟨rfl, hB1⟩
    have P1 := hidden (O.out.later hB1)
    obtain ⟨c0, c1, c2, c3, c4, c5, c6⟩ := cells2 P1.out
    clear hB1 O AW
    go_wp2_with fail
    refine Calls.mono (RC.out _) ?_
    rintro e w2 ⟨rfl, hB2⟩
    have HB := hidden (P1.out.later hB2).below
    clear c0 c1 c2 c3 c4 c5 c6 hB2 P1
    go_wp2
    go_ret
    exact ⟨rfl, HB.out⟩

theorem contract (H : Type) (enc : TypeId × Value → H) (W : World) (base : Nat) (args : Array Value) (ds gs : List (DataW H)) (before : List MemPlace)
    (hval : ∀ (j : Nat) t v, Try.f6.params[j]? = some t → args[j]? = some v → Value.okWide Try.prog W .any base t v)
    (hW : DataW.Whole enc Try.prog Try.f6.params.toList Rows.rtoDoublesSpec.vars false W args.toList ds gs before)
    (hsz0 : (DataW.weightsEach Try.prog (Try.f6.params.toList ++ Rows.rtoDoublesSpec.plain.varTypes Try.prog) (ds ++ gs)).all (· ≤ reachBytes) = true) :
    Calls Try.prog 6 args W fun e W' => ∃ v, e = .returned v ∧ Rows.rtoDoublesSpec.post enc Try.prog Try.f6 false true false false W args v W' := by
  have hW' := hW
  obtain ⟨p, q, hA0, hV, rfl, hfz, hnd⟩ := hW
  have hA : DataW.TrodAll enc Try.prog W 0 (fun _ => true) true Try.f6.params.toList args.toList ds p := hA0
  have hsz := hsz0
  rw [Try.params6] at hA hval hsz
  obtain ⟨v0, vs0, d0, ds0, p0, q0, hargs, rfl, rfl, h0, r0⟩ := trodAll_cons hA
  obtain ⟨v1, vs1, d1, ds1, p1, q1, rfl, rfl, rfl, h1, r1⟩ := trodAll_cons r0
  obtain ⟨v2, vs2, d2, ds2, p2, q2, rfl, rfl, rfl, h2, r2⟩ := trodAll_cons r1
  obtain ⟨v3, vs3, d3, ds3, p3, q3, rfl, rfl, rfl, h3, r3⟩ := trodAll_cons r2
  obtain ⟨rfl, rfl, rfl⟩ := trodAll_nil r3
  obtain rfl : args = #[v0, v1, v2, v3] := by cases args; simp_all
  obtain ⟨rfl, rfl⟩ := trodVars_none hV
  have k0 := h0
  have lt0 : ∀ x ∈ p0, x.block < W.heap.size := by obtain ⟨m, hm⟩ := k0; exact DataW.trod_lt m _ _ _ hm
  have sz0 : (d0.weights Try.prog 23).all (· ≤ reachBytes) = true := List.all_eq_true.2 fun m hm => List.all_eq_true.1 hsz m (DataW.weights_mem_each (j := 0) rfl rfl m hm)
  obtain ⟨q0, rfl, w0⟩ : ∃ q, v0 = .agg ((fun q : Int × Int × Int => [.int .i64 q.1, .int .i64 q.2.1, .int .i64 q.2.2]) q).toArray ∧ (fun q => (Lit.int .i64 q.1).wf = true ∧ (Lit.int .i64 q.2.1).wf = true ∧ (Lit.int .i64 q.2.2).wf = true) q := by
    obtain ⟨fuel, hf⟩ := h0
    exact Ag.one_arg kd23 Try.underlying23 (hval 0 23 v0 rfl rfl) hf sz0
  have k1 := h1
  have lt1 : ∀ x ∈ p1, x.block < W.heap.size := by obtain ⟨m, hm⟩ := k1; exact DataW.trod_lt m _ _ _ hm
  have sz1 : (d1.weights Try.prog 25).all (· ≤ reachBytes) = true := List.all_eq_true.2 fun m hm => List.all_eq_true.1 hsz m (DataW.weights_mem_each (j := 1) rfl rfl m hm)
  obtain ⟨q1, rfl, w1⟩ : ∃ q, v1 = .agg ((fun q : Bool × Int × Int × Int => [.bool q.1, .int .i64 q.2.1, .int .i64 q.2.2.1, .int .i64 q.2.2.2]) q).toArray ∧ (fun q => (Lit.int .i64 q.2.1).wf = true ∧ (Lit.int .i64 q.2.2.1).wf = true ∧ (Lit.int .i64 q.2.2.2).wf = true) q := by
    obtain ⟨fuel, hf⟩ := h1
    exact Ag.one_arg kd25 Try.underlying25 (hval 1 25 v1 rfl rfl) hf sz1
  obtain ⟨a2, rfl, rfl, rfl, w2⟩ := open_int Try.underlying3 (hval 2 3 v2 rfl rfl) h2
  obtain ⟨a3, rfl, rfl, rfl, w3⟩ := open_int Try.underlying3 (hval 3 3 v3 rfl rfl) h3
  clear hA0 hsz0 hsz
  refine (walk q0 q1 a2 a3 W w0 w1 w2 w3).mono fun e W' ⟨he, bel⟩ => ?_
  subst he
  exact ⟨_, rfl, _, _, _, [], _, [], hW', trodAll_mk1 (shut_bool Try.underlying4 _), (trodAll_cons_mk (Below.trod laidOut (by kernel_rfl) (of_decide_eq_true (by kernel_rfl)) k0 bel lt0) (trodAll_cons_mk (Below.trod laidOut (by kernel_rfl) (of_decide_eq_true (by kernel_rfl)) k1 bel lt1) (trodAll_cons_mk (shut_int Try.underlying3 w2) (trodAll_cons_mk (shut_int Try.underlying3 w3) trodAll_mk0)))), rfl, bel.frame _, fun h => by cases h⟩

noncomputable def laidWorld (os : Os) : World :=
  World.holding Try.prog os ⟨#[], #[], []⟩
theorem laid_met (os : Os) : laidMet Try.prog Rows.rtoDoublesRow.laid ((laidWorld os).forCall (fun _ _ => 0) ⟨#[], #[.agg #[.int .i64 0, .int .i64 0, .int .i64 0], .agg #[.bool false, .int .i64 0, .int .i64 0, .int .i64 0], .int .i64 0, .int .i64 0], []⟩).memory :=
  laidMet_of_run' 8 (by kernel_rfl) (by kernel_rfl)
theorem reads (os : Os) {H : Type} (enc : TypeId × Value → H) : ∃ places, DataW.whole enc Try.prog ((laidWorld os).forCall (fun _ _ => 0) ⟨#[], #[.agg #[.int .i64 0, .int .i64 0, .int .i64 0], .agg #[.bool false, .int .i64 0, .int .i64 0, .int .i64 0], .int .i64 0, .int .i64 0], []⟩).memory Try.f6.params.toList Rows.rtoDoublesSpec.vars false #[Value.agg #[.int .i64 0, .int .i64 0, .int .i64 0], Value.agg #[.bool false, .int .i64 0, .int .i64 0, .int .i64 0], Value.int .i64 0, Value.int .i64 0].toList 8 = some ([.agg [.lit (.int .i64 0), .lit (.int .i64 0), .lit (.int .i64 0)], .agg [.lit (.bool false), .lit (.int .i64 0), .lit (.int .i64 0), .lit (.int .i64 0)], .lit (.int .i64 0), .lit (.int .i64 0)], [], places) :=
  ⟨[], by kernel_rfl⟩

set_option maxRecDepth 100000 in
theorem lifted (os : Os) (started : os.Started) (H : Type) (enc : TypeId × Value → H) (F : Stop.Interp) :
    ReturnsInHanded {} Try.checked os 6 .any ((OpenSpec.ofChange Rows.rtoDoublesSpec).preRow enc Try.prog Try.f6 Rows.rtoDoublesRow.domain false Rows.rtoDoublesRow.laid) (((OpenSpec.ofChange Rows.rtoDoublesSpec).at F).post enc Try.prog Try.f6 false true false false) := by
  obtain ⟨places, hx⟩ := reads os enc
  refine returnsInHanded_of_row (C := Try.checked) (s := OpenSpec.ofChange Rows.rtoDoublesSpec) own started (by kernel_rfl) Try.func6
    (witness_row_at (enc := enc) (C := Try.checked) false (laidWorld os) #[.agg #[.int .i64 0, .int .i64 0, .int .i64 0], .agg #[.bool false, .int .i64 0, .int .i64 0, .int .i64 0], .int .i64 0, .int .i64 0] rfl (by kernel_rfl) (by kernel_rfl) (by kernel_rfl)
      (OpenSpec.preRow_of_cond 8 hx (by kernel_rfl) (fun k hk => by cases hk) (by kernel_rfl) (laid_met os))) ?_
  intro W base args ds gs before hval hW _ hcond hsz hL _ _
  exact contract H enc W base args ds gs before hval hW hsz

theorem said : Rows.RtoDoublesSaid :=
  OpenClaim.holds_of_cond 6 Try.f6 rfl rfl rfl rfl rfl rfl rfl ⟨rfl, rfl, rfl, rfl, rfl⟩ rfl rfl rfl rfl rfl (by kernel_rfl) Try.func6 (by kernel_rfl)
    (of_decide_eq_true (by kernel_rfl)) (by unfold Func.isWrapper; first | (rw [if_pos (by decide +kernel)]; kernel_rfl) | (rw [if_neg (by decide +kernel)]; exact ⟨rfl, rfl⟩))
    (fun os started H enc _ F => by rw [OpenClaim.pre_eq_preRow]; exact lifted os started H enc F)

/-- THE STATEMENT -/
theorem proved : Rows.RtoDoublesSaid := said
#print axioms proved
end Go.Proofs.Ythfhcepfomghoaa.rtoDoubles
