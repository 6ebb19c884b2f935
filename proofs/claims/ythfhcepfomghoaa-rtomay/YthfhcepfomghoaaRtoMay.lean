/-
  What RtoMay says of every call is true: what Measure and Backoff tell of a state that may be may be, and of any other they tell the same error and nothing else (P10.4). Conditions: none.
-/
import Derived.Test.YthfhcepfomghoaaRows
import Derived.WalkKit
import Derived.ProofKit
import Derived.OpenShut
import Derived.ShutString
import Derived.ChangeOld
import Derived.Below
import Derived.SizedLaws
import Derived.Deep.DeepHandedRow
import Derived.LaidLaws
import Derived.ChangeMaps5
import Derived.Test.YthfhcepfomghoaaRtF
import Derived.Test.YthfhcepfomghoaaAg
namespace Go.Proofs.Ythfhcepfomghoaa.rtoMay
open Go.ChangeShapes Go.WideShapes Go.ChangeAt Go.RowKit
open Go.ChangeMaps (open_string shut_string)
set_option linter.unusedVariables false

theorem own : ownKnob Try.prog.godebug = none := by kernel_rfl
theorem laidOut : laidOutB Try.prog = true := by kernel_rfl

theorem kd23 : Ag.Kind Try.prog 23 3 (fun q : Int × Int × Int => [.int .i64 q.1, .int .i64 q.2.1, .int .i64 q.2.2]) (fun q => (Lit.int .i64 q.1).wf = true ∧ (Lit.int .i64 q.2.1).wf = true ∧ (Lit.int .i64 q.2.2).wf = true) := by
  refine ⟨by kernel_rfl, by decide, fun _ => rfl, fun {H enc W base held fuel cl x} h _ => ?_⟩
  obtain ⟨xs, n, _, _, hcl, hxl, hfield⟩ := DataW.trod_struct Try.underlying23 h
  rw [show Try.prog.cellsOf 23 = 3 by kernel_rfl] at hcl
  match cl, hcl with
  | [v0, v1, v2], _ =>
    match xs, hxl with
    | [y0, y1, y2], _ =>
      have g0 := hfield 0 _ rfl
      simp [show Try.prog.cellsOf 3 = 1 by kernel_rfl] at g0
      obtain ⟨n0, e0, _, w0⟩ := DataW.trod_int Try.underlying3 g0
      simp at e0
      subst e0
      have g1 := hfield 1 _ rfl
      simp [show Try.prog.cellsOf 3 = 1 by kernel_rfl] at g1
      obtain ⟨n1, e1, _, w1⟩ := DataW.trod_int Try.underlying3 g1
      simp at e1
      subst e1
      have g2 := hfield 2 _ rfl
      simp [show Try.prog.cellsOf 3 = 1 by kernel_rfl] at g2
      obtain ⟨n2, e2, _, w2⟩ := DataW.trod_int Try.underlying3 g2
      simp at e2
      subst e2
      exact ⟨(n0, n1, n2), rfl, w0, w1, w2⟩
theorem kd25 : Ag.Kind Try.prog 25 4 (fun q : Bool × Int × Int × Int => [.bool q.1, .int .i64 q.2.1, .int .i64 q.2.2.1, .int .i64 q.2.2.2]) (fun q => (Lit.int .i64 q.2.1).wf = true ∧ (Lit.int .i64 q.2.2.1).wf = true ∧ (Lit.int .i64 q.2.2.2).wf = true) := by
  refine ⟨by kernel_rfl, by decide, fun _ => rfl, fun {H enc W base held fuel cl x} h _ => ?_⟩
  obtain ⟨xs, n, _, _, hcl, hxl, hfield⟩ := DataW.trod_struct Try.underlying25 h
  rw [show Try.prog.cellsOf 25 = 4 by kernel_rfl] at hcl
  match cl, hcl with
  | [v0, v1, v2, v3], _ =>
    match xs, hxl with
    | [y0, y1, y2, y3], _ =>
      have g0 := hfield 0 _ rfl
      simp [show Try.prog.cellsOf 4 = 1 by kernel_rfl] at g0
      obtain ⟨n0, e0, _⟩ := DataW.trod_bool Try.underlying4 g0
      simp at e0
      subst e0
      have g1 := hfield 1 _ rfl
      simp [show Try.prog.cellsOf 3 = 1 by kernel_rfl] at g1
      obtain ⟨n1, e1, _, w1⟩ := DataW.trod_int Try.underlying3 g1
      simp at e1
      subst e1
      have g2 := hfield 2 _ rfl
      simp [show Try.prog.cellsOf 3 = 1 by kernel_rfl] at g2
      obtain ⟨n2, e2, _, w2⟩ := DataW.trod_int Try.underlying3 g2
      simp at e2
      subst e2
      have g3 := hfield 3 _ rfl
      simp [show Try.prog.cellsOf 3 = 1 by kernel_rfl] at g3
      obtain ⟨n3, e3, _, w3⟩ := DataW.trod_int Try.underlying3 g3
      simp at e3
      subst e3
      exact ⟨(n0, n1, n2, n3), rfl, w1, w2, w3⟩
open Ba (hidden Has)
open Ow (Own)
open Rt
theorem bo_ok {i mi ma : Int} {k : Bool} {s v t : Int} (h : chk i mi ma k s v t = 0) : chk i mi ma k s v (min (2 * t) ma) = 0 ∧ t ≤ min (2 * t) ma := by
  obtain ⟨h1, h2, h3, h4⟩ := chk_zero h
  exact ⟨(chk0 (decide_eq_true h1) h2 (by omega) h4).symm, by omega⟩
theorem ms_ok {i mi ma : Int} {k : Bool} {s v t n : Int} (h : chk i mi ma k s v t = 0) (hn : 0 ≤ n ∧ n ≤ 1048576) : chk i mi ma true (smI k s n) (vaI k s v n) (keepI (tripI (smI k s n) + max 1 (vaI k s v n)) mi ma) = 0 := by
  obtain ⟨h1, h2, h3, h4⟩ := chk_zero h
  refine (chk0 (decide_eq_true h1) ⟨sm_in h2.1 hn, va_in h2.1 h2.2 hn⟩ ?_ (fun e => by cases e)).symm
  unfold keepI
  omega
set_option maxHeartbeats 1000000 in

theorem walk (q0 : Int × Int × Int) (q1 : Bool × Int × Int × Int) (a2 : Int) (w : World) (w0 : (fun q => (Lit.int .i64 q.1).wf = true ∧ (Lit.int .i64 q.2.1).wf = true ∧ (Lit.int .i64 q.2.2).wf = true) q0) (w1 : (fun q => (Lit.int .i64 q.2.1).wf = true ∧ (Lit.int .i64 q.2.2.1).wf = true ∧ (Lit.int .i64 q.2.2.2).wf = true) q1) (w2 : (Lit.int .i64 a2).wf = true) :
    Calls Try.prog 4 #[.agg ((fun q : Int × Int × Int => [.int .i64 q.1, .int .i64 q.2.1, .int .i64 q.2.2]) q0).toArray, .agg ((fun q : Bool × Int × Int × Int => [.bool q.1, .int .i64 q.2.1, .int .i64 q.2.2.1, .int .i64 q.2.2.2]) q1).toArray, .int .i64 a2] w fun e w' => e = .returned (.bool true) ∧ Below w.heap.size w w' := by
  obtain ⟨i, mi, ma⟩ := q0
  obtain ⟨k, s, v, t⟩ := q1
  have AW := hidden Rt.awake
  have M := hidden (measureX i mi ma k s v t a2)
  have B := hidden (backoffX i mi ma k s v t)
  have RC := hidden (rCheck i mi ma)
  have O := hidden (own2 w i mi ma k s v t 23)
  clear w0 w1 w2
  by_cases hc : chk i mi ma k s v t = 0
  · obtain ⟨hb1, hb2⟩ := bo_ok hc
    rw [show bo i mi ma k s v t = (k, s, v, min (2 * t) ma, 0) by unfold bo; rw [if_pos hc]] at B
    have RB := hidden (RC.out k s v (min (2 * t) ma))
    rw [hb1] at RB
    have hge : decide (t ≤ min (2 * t) ma) = true := decide_eq_true hb2
    unfold tv at B
    simp only at B
    generalize min (2 * t) ma = U at B RB hge hb2
    by_cases hn : 0 ≤ a2 ∧ a2 ≤ 1048576
    · have hm := ms_ok hc hn
      rw [show ms i mi ma k s v t a2 = (true, smI k s a2, vaI k s v a2, keepI (tripI (smI k s a2) + max 1 (vaI k s v a2)) mi ma, 0) by unfold ms; rw [if_pos hc, if_pos hn]] at M
      have RM := hidden (RC.out true (smI k s a2) (vaI k s v a2) (keepI (tripI (smI k s a2) + max 1 (vaI k s v a2)) mi ma))
      rw [hm] at RM
      unfold tv at M
      simp only at M
      clear hm hc hb1 hn RC
      generalize keepI (tripI (smI k s a2) + max 1 (vaI k s v a2)) mi ma = X at M RM
      generalize smI k s a2 = S at M RM
      generalize vaI k s v a2 = V at M RM
      go_enter Try.func4, Try.ntmps4
      go_wp2_with fail
      refine Calls.mono (AW.out _) ?_
      rintro e w1 ⟨rfl, hB1⟩
      have P1 := hidden (O.out.later hB1)
      obtain ⟨c0, c1, c2, c3, c4, c5, c6⟩ := cells2 P1.out
      clear hB1 O AW
      go_wp2_with fail
      refine Calls.mono (M.out _) ?_
      rintro e w2 ⟨rfl, hB2⟩
      have P2 := hidden (P1.out.later hB2)
      clear c0 c1 c2 c3 c4 c5 c6
      obtain ⟨c0, c1, c2, c3, c4, c5, c6⟩ := cells2 P2.out
      have hl2 := P2.out.lt (.head _)
      have hl1 := P2.out.lt (.tail _ (.head _))
      have O2 := hidden (P2.out.alloc #[.bool true, .int .i64 S, .int .i64 V, .int .i64 X] 25)
      clear hB2 P1 M P2
      go_wp2_with fail
      refine Calls.mono (B.out _) ?_
      rintro e w3 ⟨rfl, hB3⟩
      have P3 := hidden (O2.out.later hB3)
      have O3 := hidden (P3.out.alloc #[.bool k, .int .i64 s, .int .i64 v, .int .i64 U] 25)
      clear c0 c1 c2 c3 c4 c5 c6
      obtain ⟨⟨c0, c1, c2⟩, hl0⟩ := tim3 P3.out (.tail _ (.tail _ (.head _)))
      obtain ⟨⟨d0, d1, d2, d3⟩, _⟩ := ans P3.out (b := w.heap.size + 1) (.tail _ (.head _))
      obtain ⟨⟨r0, r1, r2, r3⟩, _⟩ := ans P3.out (b := w2.heap.size) (.head _)
      have hl3 := P3.out.lt (.head _)
      have hl4 := P3.out.lt (.tail _ (.head _))
      clear hB3 O2 P3 B
      go_wp2_with fail
      refine Calls.mono (RB.out _) ?_
      rintro e w4 ⟨rfl, hB4⟩
      have P4 := hidden (O3.out.later hB4)
      clear c0 c1 c2 d0 d1 d2 d3 r0 r1 r2 r3
      obtain ⟨⟨c0, c1, c2⟩, hl5⟩ := tim3 P4.out (.tail _ (.tail _ (.tail _ (.head _))))
      obtain ⟨⟨u0, u1, u2, u3⟩, _⟩ := ans P4.out (b := w3.heap.size) (.head _)
      obtain ⟨⟨d0, d1, d2, d3⟩, _⟩ := ans P4.out (b := w.heap.size + 1) (.tail _ (.tail _ (.head _)))
      obtain ⟨⟨r0, r1, r2, r3⟩, _⟩ := ans P4.out (b := w2.heap.size) (.tail _ (.head _))
      clear hB4 RB O3
      go_wp2_with fail
      refine Calls.mono (RM.out _) ?_
      rintro e w5 ⟨rfl, hB5⟩
      have P5 := hidden (P4.out.later hB5)
      have HB := hidden P5.out.below
      clear c0 c1 c2 d0 d1 d2 d3 r0 r1 r2 r3 u0 u1 u2 u3
      obtain ⟨⟨r0, r1, r2, r3⟩, _⟩ := ans P5.out (b := w2.heap.size) (.tail _ (.head _))
      clear hB5 P4 P5 RM
      go_wp2
      go_ret
      exact ⟨rfl, HB.out⟩
    · rw [show ms i mi ma k s v t a2 = no 5 by unfold ms; rw [if_pos hc, if_neg hn]] at M
      rw [show ∀ c, tv (no c) = .tuple #[.agg #[.bool false, .int .i64 0, .int .i64 0, .int .i64 0], .int .i64 c] from fun _ => rfl] at M
      clear hc hb1 hn RC
      go_enter Try.func4, Try.ntmps4
      go_wp2_with fail
      refine Calls.mono (AW.out _) ?_
      rintro e w1 ⟨rfl, hB1⟩
      have P1 := hidden (O.out.later hB1)
      obtain ⟨c0, c1, c2, c3, c4, c5, c6⟩ := cells2 P1.out
      clear hB1 O AW
      go_wp2_with fail
      refine Calls.mono (M.out _) ?_
      rintro e w2 ⟨rfl, hB2⟩
      have P2 := hidden (P1.out.later hB2)
      clear c0 c1 c2 c3 c4 c5 c6
      obtain ⟨c0, c1, c2, c3, c4, c5, c6⟩ := cells2 P2.out
      have hl2 := P2.out.lt (.head _)
      have hl1 := P2.out.lt (.tail _ (.head _))
      have O2 := hidden (P2.out.alloc #[.bool false, .int .i64 0, .int .i64 0, .int .i64 0] 25)
      clear hB2 P1 M P2
      go_wp2_with fail
      refine Calls.mono (B.out _) ?_
      rintro e w3 ⟨rfl, hB3⟩
      have P3 := hidden (O2.out.later hB3)
      have O3 := hidden (P3.out.alloc #[.bool k, .int .i64 s, .int .i64 v, .int .i64 U] 25)
      clear c0 c1 c2 c3 c4 c5 c6
      obtain ⟨⟨c0, c1, c2⟩, hl0⟩ := tim3 P3.out (.tail _ (.tail _ (.head _)))
      obtain ⟨⟨d0, d1, d2, d3⟩, _⟩ := ans P3.out (b := w.heap.size + 1) (.tail _ (.head _))
      have hl3 := P3.out.lt (.head _)
      have hl4 := P3.out.lt (.tail _ (.head _))
      clear hB3 O2 P3 B
      go_wp2_with fail
      refine Calls.mono (RB.out _) ?_
      rintro e w4 ⟨rfl, hB4⟩
      have P4 := hidden (O3.out.later hB4)
      have HB := hidden P4.out.below
      clear c0 c1 c2 d0 d1 d2 d3
      obtain ⟨⟨u0, u1, u2, u3⟩, _⟩ := ans P4.out (b := w3.heap.size) (.head _)
      obtain ⟨⟨d0, d1, d2, d3⟩, _⟩ := ans P4.out (b := w.heap.size + 1) (.tail _ (.tail _ (.head _)))
      clear hB4 RB O3 P4
      go_wp2
      go_ret
      exact ⟨rfl, HB.out⟩
  · rw [show bo i mi ma k s v t = no (chk i mi ma k s v t) by unfold bo; rw [if_neg hc]] at B
    rw [show ms i mi ma k s v t a2 = no (chk i mi ma k s v t) by unfold ms; rw [if_neg hc]] at M
    rw [show ∀ c, tv (no c) = .tuple #[.agg #[.bool false, .int .i64 0, .int .i64 0, .int .i64 0], .int .i64 c] from fun _ => rfl] at B M
    have hc2 : (chk i mi ma k s v t == 0) = false := beq_eq_false_iff_ne.2 hc
    generalize chk i mi ma k s v t = c at B M hc hc2
    clear RC
    go_enter Try.func4, Try.ntmps4
    go_wp2_with fail
    refine Calls.mono (AW.out _) ?_
    rintro e w1 ⟨rfl, hB1⟩
    have P1 := hidden (O.out.later hB1)
    obtain ⟨c0, c1, c2, c3, c4, c5, c6⟩ := cells2 P1.out
    clear hB1 O AW
    go_wp2_with fail
    refine Calls.mono (M.out _) ?_
    rintro e w2 ⟨rfl, hB2⟩
    have P2 := hidden (P1.out.later hB2)
    clear c0 c1 c2 c3 c4 c5 c6
    obtain ⟨c0, c1, c2, c3, c4, c5, c6⟩ := cells2 P2.out
    have hl2 := P2.out.lt (.head _)
    have hl1 := P2.out.lt (.tail _ (.head _))
    have O2 := hidden (P2.out.alloc #[.bool false, .int .i64 0, .int .i64 0, .int .i64 0] 25)
    clear hB2 P1 M P2
    go_wp2_with fail
    refine Calls.mono (B.out _) ?_
    rintro e w3 ⟨rfl, hB3⟩
    have P3 := hidden (O2.out.later hB3)
    have HB := hidden P3.out.below
    obtain ⟨⟨r0, r1, r2, r3⟩, _⟩ := ans P3.out (b := w2.heap.size) (.head _)
    have hl3 := P3.out.lt (.head _)
    clear hB3 O2 P3 B c0 c1 c2 c3 c4 c5 c6
    go_wp2
    go_ret
    exact ⟨rfl, HB.out.alloc HB.out.size _⟩

theorem contract (H : Type) (enc : TypeId × Value → H) (W : World) (base : Nat) (args : Array Value) (ds gs : List (DataW H)) (before : List MemPlace)
    (hval : ∀ (j : Nat) t v, Try.f4.params[j]? = some t → args[j]? = some v → Value.okWide Try.prog W .any base t v)
    (hW : DataW.Whole enc Try.prog Try.f4.params.toList Rows.rtoMaySpec.vars false W args.toList ds gs before)
    (hsz0 : (DataW.weightsEach Try.prog (Try.f4.params.toList ++ Rows.rtoMaySpec.plain.varTypes Try.prog) (ds ++ gs)).all (· ≤ reachBytes) = true) :
    Calls Try.prog 4 args W fun e W' => ∃ v, e = .returned v ∧ Rows.rtoMaySpec.post enc Try.prog Try.f4 false true false false W args v W' := by
  have hW' := hW
  obtain ⟨p, q, hA0, hV, rfl, hfz, hnd⟩ := hW
  have hA : DataW.TrodAll enc Try.prog W 0 (fun _ => true) true Try.f4.params.toList args.toList ds p := hA0
  have hsz := hsz0
  rw [Try.params4] at hA hval hsz
  obtain ⟨v0, vs0, d0, ds0, p0, q0, hargs, rfl, rfl, h0, r0⟩ := trodAll_cons hA
  obtain ⟨v1, vs1, d1, ds1, p1, q1, rfl, rfl, rfl, h1, r1⟩ := trodAll_cons r0
  obtain ⟨v2, vs2, d2, ds2, p2, q2, rfl, rfl, rfl, h2, r2⟩ := trodAll_cons r1
  obtain ⟨rfl, rfl, rfl⟩ := trodAll_nil r2
  obtain rfl : args = #[v0, v1, v2] := by cases args; simp_all
  obtain ⟨rfl, rfl⟩ := trodVars_none hV
  have k0 := h0
  have lt0 : ∀ x ∈ p0, x.block < W.heap.size := by obtain ⟨m, hm⟩ := k0; exact DataW.trod_lt m _ _ _ hm
  have sz0 : (d0.weights Try.prog 23).all (· ≤ reachBytes) = true := List.all_eq_true.2 fun m hm => List.all_eq_true.1 hsz m (DataW.weights_mem_each (j := 0) rfl rfl m hm)
  obtain ⟨q0, rfl, w0⟩ : ∃ q, v0 = .agg ((fun q : Int × Int × Int => [.int .i64 q.1, .int .i64 q.2.1, .int .i64 q.2.2]) q).toArray ∧ (fun q => (Lit.int .i64 q.1).wf = true ∧ (Lit.int .i64 q.2.1).wf = true ∧ (Lit.int .i64 q.2.2).wf = true) q := by
    obtain ⟨fuel, hf⟩ := h0
    exact Ag.one_arg kd23 Try.underlying23 (hval 0 23 v0 rfl rfl) hf sz0
  have k1 := h1
  have lt1 : ∀ x ∈ p1, x.block < W.heap.size := by obtain ⟨m, hm⟩ := k1; exact DataW.trod_lt m _ _ _ hm
  have sz1 : (d1.weights Try.prog 25).all (· ≤ reachBytes) = true := List.all_eq_true.2 fun m hm => List.all_eq_true.1 hsz m (DataW.weights_mem_each (j := 1) rfl rfl m hm)
  obtain ⟨q1, rfl, w1⟩ : ∃ q, v1 = .agg ((fun q : Bool × Int × Int × Int => [.bool q.1, .int .i64 q.2.1, .int .i64 q.2.2.1, .int .i64 q.2.2.2]) q).toArray ∧ (fun q => (Lit.int .i64 q.2.1).wf = true ∧ (Lit.int .i64 q.2.2.1).wf = true ∧ (Lit.int .i64 q.2.2.2).wf = true) q := by
    obtain ⟨fuel, hf⟩ := h1
    exact Ag.one_arg kd25 Try.underlying25 (hval 1 25 v1 rfl rfl) hf sz1
  obtain ⟨a2, rfl, rfl, rfl, w2⟩ := open_int Try.underlying3 (hval 2 3 v2 rfl rfl) h2
  clear hA0 hsz0 hsz
  refine (walk q0 q1 a2 W w0 w1 w2).mono fun e W' ⟨he, bel⟩ => ?_
  subst he
  exact ⟨_, rfl, _, _, _, [], _, [], hW', trodAll_mk1 (shut_bool Try.underlying4 _), (trodAll_cons_mk (Below.trod laidOut (by kernel_rfl) (of_decide_eq_true (by kernel_rfl)) k0 bel lt0) (trodAll_cons_mk (Below.trod laidOut (by kernel_rfl) (of_decide_eq_true (by kernel_rfl)) k1 bel lt1) (trodAll_cons_mk (shut_int Try.underlying3 w2) trodAll_mk0))), rfl, bel.frame _, fun h => by cases h⟩

noncomputable def laidWorld (os : Os) : World :=
  World.holding Try.prog os ⟨#[], #[], []⟩
theorem laid_met (os : Os) : laidMet Try.prog Rows.rtoMayRow.laid ((laidWorld os).forCall (fun _ _ => 0) ⟨#[], #[.agg #[.int .i64 0, .int .i64 0, .int .i64 0], .agg #[.bool false, .int .i64 0, .int .i64 0, .int .i64 0], .int .i64 0], []⟩).memory :=
  laidMet_of_run' 8 (by kernel_rfl) (by kernel_rfl)
theorem reads (os : Os) {H : Type} (enc : TypeId × Value → H) : ∃ places, DataW.whole enc Try.prog ((laidWorld os).forCall (fun _ _ => 0) ⟨#[], #[.agg #[.int .i64 0, .int .i64 0, .int .i64 0], .agg #[.bool false, .int .i64 0, .int .i64 0, .int .i64 0], .int .i64 0], []⟩).memory Try.f4.params.toList Rows.rtoMaySpec.vars false #[Value.agg #[.int .i64 0, .int .i64 0, .int .i64 0], Value.agg #[.bool false, .int .i64 0, .int .i64 0, .int .i64 0], Value.int .i64 0].toList 8 = some ([.agg [.lit (.int .i64 0), .lit (.int .i64 0), .lit (.int .i64 0)], .agg [.lit (.bool false), .lit (.int .i64 0), .lit (.int .i64 0), .lit (.int .i64 0)], .lit (.int .i64 0)], [], places) :=
  ⟨[], by kernel_rfl⟩

set_option maxRecDepth 100000 in
theorem lifted (os : Os) (started : os.Started) (H : Type) (enc : TypeId × Value → H) (F : Stop.Interp) :
    ReturnsInHanded {} Try.checked os 4 .any ((OpenSpec.ofChange Rows.rtoMaySpec).preRow enc Try.prog Try.f4 Rows.rtoMayRow.domain false Rows.rtoMayRow.laid) (((OpenSpec.ofChange Rows.rtoMaySpec).at F).post enc Try.prog Try.f4 false true false false) := by
  obtain ⟨places, hx⟩ := reads os enc
  refine returnsInHanded_of_row (C := Try.checked) (s := OpenSpec.ofChange Rows.rtoMaySpec) own started (by kernel_rfl) Try.func4
    (witness_row_at (enc := enc) (C := Try.checked) false (laidWorld os) #[.agg #[.int .i64 0, .int .i64 0, .int .i64 0], .agg #[.bool false, .int .i64 0, .int .i64 0, .int .i64 0], .int .i64 0] rfl (by kernel_rfl) (by kernel_rfl) (by kernel_rfl)
      (OpenSpec.preRow_of_cond 8 hx (by kernel_rfl) (fun k hk => by cases hk) (by kernel_rfl) (laid_met os))) ?_
  intro W base args ds gs before hval hW _ hcond hsz hL _ _
  exact contract H enc W base args ds gs before hval hW hsz

theorem said : Rows.RtoMaySaid :=
  OpenClaim.holds_of_cond 4 Try.f4 rfl rfl rfl rfl rfl rfl rfl ⟨rfl, rfl, rfl, rfl, rfl⟩ rfl rfl rfl rfl rfl (by kernel_rfl) Try.func4 (by kernel_rfl)
    (of_decide_eq_true (by kernel_rfl)) (by unfold Func.isWrapper; first | (rw [if_pos (by decide +kernel)]; kernel_rfl) | (rw [if_neg (by decide +kernel)]; exact ⟨rfl, rfl⟩))
    (fun os started H enc _ F => by rw [OpenClaim.pre_eq_preRow]; exact lifted os started H enc F)

/-- THE STATEMENT -/
theorem proved : Rows.RtoMaySaid := said
#print axioms proved
end Go.Proofs.Ythfhcepfomghoaa.rtoMay
