/-
  What RtoSettles says of every call is true: behind 400 measurements of the same time the smoothed round trip is that time, and the timeout is from it to 4 above it, within the bounds (P10.5). Conditions: none.
-/
import Derived.Test.YthfhcepfomghoaaRows
import Derived.WalkKit
import Derived.ProofKit
import Derived.OpenShut
import Derived.ShutString
import Derived.ChangeOld
import Derived.Below
import Derived.SizedLaws
import Derived.Deep.DeepHandedRow
import Derived.LaidLaws
import Derived.ChangeMaps5
import Derived.Test.YthfhcepfomghoaaRtG
import Derived.Test.YthfhcepfomghoaaAg
namespace Go.Proofs.Ythfhcepfomghoaa.rtoSettles
open Go.ChangeShapes Go.WideShapes Go.ChangeAt Go.RowKit
open Go.ChangeMaps (open_string shut_string)
set_option linter.unusedVariables false

theorem own : ownKnob Try.prog.godebug = none := by kernel_rfl
theorem laidOut : laidOutB Try.prog = true := by kernel_rfl

theorem kd23 : Ag.Kind Try.prog 23 3 (fun q : Int × Int × Int => [.int .i64 q.1, .int .i64 q.2.1, .int .i64 q.2.2]) (fun q => (Lit.int .i64 q.1).wf = true ∧ (Lit.int .i64 q.2.1).wf = true ∧ (Lit.int .i64 q.2.2).wf = true) := by
  refine ⟨by kernel_rfl, by decide, fun _ => rfl, fun {H enc W base held fuel cl x} h _ => ?_⟩
  obtain ⟨xs, n, _, _, hcl, hxl, hfield⟩ := DataW.trod_struct Try.underlying23 h
  rw [show Try.prog.cellsOf 23 = 3 by kernel_rfl] at hcl
  match cl, hcl with
  | [v0, v1, v2], _ =>
    match xs, hxl with
    | [y0, y1, y2], _ =>
      have g0 := hfield 0 _ rfl
      simp [show Try.prog.cellsOf 3 = 1 by kernel_rfl] at g0
      obtain ⟨n0, e0, _, w0⟩ := DataW.trod_int Try.underlying3 g0
      simp at e0
      subst e0
      have g1 := hfield 1 _ rfl
      simp [show Try.prog.cellsOf 3 = 1 by kernel_rfl] at g1
      obtain ⟨n1, e1, _, w1⟩ := DataW.trod_int Try.underlying3 g1
      simp at e1
      subst e1
      have g2 := hfield 2 _ rfl
      simp [show Try.prog.cellsOf 3 = 1 by kernel_rfl] at g2
      obtain ⟨n2, e2, _, w2⟩ := DataW.trod_int Try.underlying3 g2
      simp at e2
      subst e2
      exact ⟨(n0, n1, n2), rfl, w0, w1, w2⟩
theorem kd25 : Ag.Kind Try.prog 25 4 (fun q : Bool × Int × Int × Int => [.bool q.1, .int .i64 q.2.1, .int .i64 q.2.2.1, .int .i64 q.2.2.2]) (fun q => (Lit.int .i64 q.2.1).wf = true ∧ (Lit.int .i64 q.2.2.1).wf = true ∧ (Lit.int .i64 q.2.2.2).wf = true) := by
  refine ⟨by kernel_rfl, by decide, fun _ => rfl, fun {H enc W base held fuel cl x} h _ => ?_⟩
  obtain ⟨xs, n, _, _, hcl, hxl, hfield⟩ := DataW.trod_struct Try.underlying25 h
  rw [show Try.prog.cellsOf 25 = 4 by kernel_rfl] at hcl
  match cl, hcl with
  | [v0, v1, v2, v3], _ =>
    match xs, hxl with
    | [y0, y1, y2, y3], _ =>
      have g0 := hfield 0 _ rfl
      simp [show Try.prog.cellsOf 4 = 1 by kernel_rfl] at g0
      obtain ⟨n0, e0, _⟩ := DataW.trod_bool Try.underlying4 g0
      simp at e0
      subst e0
      have g1 := hfield 1 _ rfl
      simp [show Try.prog.cellsOf 3 = 1 by kernel_rfl] at g1
      obtain ⟨n1, e1, _, w1⟩ := DataW.trod_int Try.underlying3 g1
      simp at e1
      subst e1
      have g2 := hfield 2 _ rfl
      simp [show Try.prog.cellsOf 3 = 1 by kernel_rfl] at g2
      obtain ⟨n2, e2, _, w2⟩ := DataW.trod_int Try.underlying3 g2
      simp at e2
      subst e2
      have g3 := hfield 3 _ rfl
      simp [show Try.prog.cellsOf 3 = 1 by kernel_rfl] at g3
      obtain ⟨n3, e3, _, w3⟩ := DataW.trod_int Try.underlying3 g3
      simp at e3
      subst e3
      exact ⟨(n0, n1, n2, n3), rfl, w1, w2, w3⟩
open Ba (hidden Has)
open Ow (Own)
open Rt
/-- the state behind q measurements of n -/
def Sat (i mi ma n : Int) (q : Nat) (k : Bool) (s v t : Int) : Prop :=
  chk i mi ma k s v t = 0 ∧ (0 < q → k = true ∧ Near n (q - 1) s v ∧ t = keepI (tripI s + max 1 v) mi ma)
theorem sat_next {i mi ma n : Int} {q : Nat} {k : Bool} {s v t : Int} (h : Sat i mi ma n q k s v t) (hn : 0 ≤ n ∧ n ≤ 1048576) : ms i mi ma k s v t n = (true, smI k s n, vaI k s v n, keepI (tripI (smI k s n) + max 1 (vaI k s v n)) mi ma, 0) ∧ Sat i mi ma n (q + 1) true (smI k s n) (vaI k s v n) (keepI (tripI (smI k s n) + max 1 (vaI k s v n)) mi ma) := by
  obtain ⟨h1, h2⟩ := h
  obtain ⟨g1, g2, g3, g4⟩ := chk_zero h1
  refine ⟨by unfold ms; rw [if_pos h1, if_pos hn], ?_, fun _ => ⟨rfl, ?_, rfl⟩⟩
  · refine (chk0 (decide_eq_true g1) ⟨sm_in g2.1 hn, va_in g2.1 g2.2 hn⟩ ?_ (fun e => by cases e)).symm
    unfold keepI
    omega
  · show Near n q _ _
    rcases Nat.eq_zero_or_pos q with rfl | hq
    · exact near_first (sm_in g2.1 hn) (va_in g2.1 g2.2 hn).2 hn
    · obtain ⟨rfl, h3, _⟩ := h2 hq
      have := near_next h3 g2.1.1 g2.2.1
      rwa [show q - 1 + 1 = q by omega] at this
theorem sat_last {i mi ma n : Int} {k : Bool} {s v t : Int} (h : Sat i mi ma n 400 k s v t) (hn : 0 ≤ n ∧ n ≤ 1048576) : tripI s = n ∧ I64 s ∧ min (max n mi) ma ≤ t ∧ t ≤ min (max (n + 4) mi) ma := by
  obtain ⟨h1, h2⟩ := h
  obtain ⟨g1, g2, g3, g4⟩ := chk_zero h1
  obtain ⟨_, h3, h4⟩ := h2 (by decide)
  obtain ⟨e1, e2⟩ := near_last h3 g2.1.1 hn.1
  rw [e1] at h4
  unfold keepI at h4
  unfold I64
  refine ⟨e1, ?_, ?_, ?_⟩ <;> omega
set_option maxHeartbeats 2000000 in

theorem walk (q0 : Int × Int × Int) (q1 : Bool × Int × Int × Int) (a2 : Int) (w : World) (w0 : (fun q => (Lit.int .i64 q.1).wf = true ∧ (Lit.int .i64 q.2.1).wf = true ∧ (Lit.int .i64 q.2.2).wf = true) q0) (w1 : (fun q => (Lit.int .i64 q.2.1).wf = true ∧ (Lit.int .i64 q.2.2.1).wf = true ∧ (Lit.int .i64 q.2.2.2).wf = true) q1) (w2 : (Lit.int .i64 a2).wf = true) :
    Calls Try.prog 5 #[.agg ((fun q : Int × Int × Int => [.int .i64 q.1, .int .i64 q.2.1, .int .i64 q.2.2]) q0).toArray, .agg ((fun q : Bool × Int × Int × Int => [.bool q.1, .int .i64 q.2.1, .int .i64 q.2.2.1, .int .i64 q.2.2.2]) q1).toArray, .int .i64 a2] w fun e w' => e = .returned (.bool true) ∧ Below w.heap.size w w' := by
  obtain ⟨i, mi, ma⟩ := q0
  obtain ⟨k, s, v, t⟩ := q1
  have AW := hidden Rt.awake
  have RC := hidden (rCheck i mi ma k s v t)
  have O := hidden (own2 w i mi ma k s v t 23)
  clear w0 w1 w2
  by_cases hc : chk i mi ma k s v t = 0
  · rw [hc] at RC
    by_cases hn : 0 ≤ a2 ∧ a2 ≤ 1048576
    · have HC : Hid (Sat i mi ma a2 0 k s v t) := ⟨hc, fun h => absurd h (by decide)⟩
      have HN := hidden hn
      have MX := hidden (fun k s v t W => measureX i mi ma k s v t a2 W)
      have hn1 := hn.1
      have hn2 := hn.2
      clear hc hn
      go_enter Try.func5, Try.ntmps5
      go_wp2_with fail
      refine Calls.mono (AW.out _) ?_
      rintro e w1 ⟨rfl, hB1⟩
      have P1 := hidden (O.out.later hB1)
      obtain ⟨c0, c1, c2, c3, c4, c5, c6⟩ := cells2 P1.out
      clear hB1 O AW
      go_wp2_with fail
      refine Calls.mono (RC.out _) ?_
      rintro e w2 ⟨rfl, hB2⟩
      have P2 := hidden (P1.out.later hB2)
      clear c0 c1 c2 c3 c4 c5 c6 hB2 P1 RC
      go_wp2_with fail
      go_loopw [7] (fun j wr => ∃ (q : Nat) (k : Bool) (s v t : Int), q ≤ 400 ∧ j = .int .i64 (q : Int) ∧ Hid (Sat i mi ma a2 q k s v t) ∧ Hid (Own w wr (B2 w i mi ma k s v t 23))) (fun j _ => 400 - (intOf j).toNat)
      case atStart => exact ⟨0, k, s, v, t, by omega, rfl, HC.out, P2.out⟩
      case round =>
        clear HC
        obtain ⟨q, k', s', v', t', j2, rfl, HS, HO⟩ := hrel
        obtain ⟨p, hp⟩ : ∃ p : Int, p = (q : Int) := ⟨_, rfl⟩
        rw [← hp]
        have hp1 : 0 ≤ p ∧ p ≤ 400 := by omega
        have HP := hidden hp
        obtain ⟨c0, c1, c2, c3, c4, c5, c6⟩ := cells2 HO.out
        have hl1 := HO.out.lt (.head _)
        have hl2 := HO.out.lt (.tail _ (.head _))
        by_cases hq : p < 400
        · obtain ⟨e1, e2⟩ := sat_next HS.out HN.out
          have B1 := hidden (MX.out k' s' v' t')
          rw [e1] at B1
          unfold tv at B1
          simp only at B1
          have E2 := hidden e2
          generalize keepI (tripI (smI k' s' a2) + max 1 (vaI k' s' v' a2)) mi ma = X at B1 E2
          generalize smI k' s' a2 = S at B1 E2
          generalize vaI k' s' v' a2 = V at B1 E2
          clear e1 e2 hp
          go_wp2_with fail
          refine Calls.mono (B1.out _) ?_
          rintro e w3 ⟨rfl, hB3⟩
          have P3 := hidden (HO.out.later hB3)
          clear c0 c1 c2 c3 c4 c5 c6
          obtain ⟨⟨r0, r1, r2, r3⟩, f0, f1, f2, f3⟩ := ans P3.out (b := w.heap.size + 1) (.head _)
          have hm4 := P3.out.lt (.head _)
          clear hB3
          go_wp2
          go_roundw
          case rel =>
            refine ⟨q + 1, true, S, V, X, ?_, ?_, E2.out, set4 P3.out (by simp) _ _ _ _ _ _⟩
            · have := HP.out; omega
            · rw [HP.out]; rfl
          case measure => simp [intOf]; omega
        · have hq4 : q = 400 := by omega
          obtain ⟨e1, e2, e3, e4⟩ := sat_last (hq4 ▸ HS.out) HN.out
          have TR := hidden (trip k' e2 v' t')
          rw [e1] at TR
          have hp4 : p = 400 := by omega
          clear e1 e2 hp HP hq4
          subst hp4
          go_wp2_with fail
          refine Calls.mono (TR.out _) ?_
          rintro e w3 ⟨rfl, hB3⟩
          have P3 := hidden (HO.out.later hB3)
          have HB := hidden P3.out.below
          clear c0 c1 c2 c3 c4 c5 c6
          obtain ⟨c0, c1, c2, c3, c4, c5, c6⟩ := cells2 P3.out
          clear hB3 TR HS P3
          go_wp2
          go_ret
          exact ⟨by first | rfl | simp, HB.out⟩
    · clear hc
      by_cases h0 : a2 < 0
      · clear hn
        go_enter Try.func5, Try.ntmps5
        go_wp2_with fail
        refine Calls.mono (AW.out _) ?_
        rintro e w1 ⟨rfl, hB1⟩
        have P1 := hidden (O.out.later hB1)
        obtain ⟨c0, c1, c2, c3, c4, c5, c6⟩ := cells2 P1.out
        clear hB1 O AW
        go_wp2_with fail
        refine Calls.mono (RC.out _) ?_
        rintro e w2 ⟨rfl, hB2⟩
        have HB := hidden (P1.out.later hB2).below
        clear c0 c1 c2 c3 c4 c5 c6 hB2 P1
        go_wp2
        go_ret
        exact ⟨rfl, HB.out⟩
      · have h1 : 1048576 < a2 := by omega
        have h2 : 0 ≤ a2 := by omega
        clear hn h0
        go_enter Try.func5, Try.ntmps5
        go_wp2_with fail
        refine Calls.mono (AW.out _) ?_
        rintro e w1 ⟨rfl, hB1⟩
        have P1 := hidden (O.out.later hB1)
        obtain ⟨c0, c1, c2, c3, c4, c5, c6⟩ := cells2 P1.out
        clear hB1 O AW
        go_wp2_with fail
        refine Calls.mono (RC.out _) ?_
        rintro e w2 ⟨rfl, hB2⟩
        have HB := hidden (P1.out.later hB2).below
        clear c0 c1 c2 c3 c4 c5 c6 hB2 P1
        go_wp2
        go_ret
        exact ⟨rfl, HB.out⟩
  · have hc2 : (chk i mi ma k s v t == 0) = false := beq_eq_false_iff_ne.2 hc
    generalize chk i mi ma k s v t = c at RC hc hc2
    go_enter Try.func5, Try.ntmps5
    go_wp2_with fail
    refine Calls.mono (AW.out _) ?_
    rintro e w1 ⟨rfl, hB1⟩
    have P1 := hidden (O.out.later hB1)
    obtain ⟨c0, c1, c2, c3, c4, c5, c6⟩ := cells2 P1.out
    clear hB1 O AW
    go_wp2_with fail
    refine Calls.mono (RC.out _) ?_
    rintro e w2 ⟨rfl, hB2⟩
    have HB := hidden (P1.out.later hB2).below
    clear c0 c1 c2 c3 c4 c5 c6 hB2 P1
    go_wp2
    go_ret
    exact ⟨rfl, HB.out⟩

theorem contract (H : Type) (enc : TypeId × Value → H) (W : World) (base : Nat) (args : Array Value) (ds gs : List (DataW H)) (before : List MemPlace)
    (hval : ∀ (j : Nat) t v, Try.f5.params[j]? = some t → args[j]? = some v → Value.okWide Try.prog W .any base t v)
    (hW : DataW.Whole enc Try.prog Try.f5.params.toList Rows.rtoSettlesSpec.vars false W args.toList ds gs before)
    (hsz0 : (DataW.weightsEach Try.prog (Try.f5.params.toList ++ Rows.rtoSettlesSpec.plain.varTypes Try.prog) (ds ++ gs)).all (· ≤ reachBytes) = true) :
    Calls Try.prog 5 args W fun e W' => ∃ v, e = .returned v ∧ Rows.rtoSettlesSpec.post enc Try.prog Try.f5 false true false false W args v W' := by
  have hW' := hW
  obtain ⟨p, q, hA0, hV, rfl, hfz, hnd⟩ := hW
  have hA : DataW.TrodAll enc Try.prog W 0 (fun _ => true) true Try.f5.params.toList args.toList ds p := hA0
  have hsz := hsz0
  rw [Try.params5] at hA hval hsz
  obtain ⟨v0, vs0, d0, ds0, p0, q0, hargs, rfl, rfl, h0, r0⟩ := trodAll_cons hA
  obtain ⟨v1, vs1, d1, ds1, p1, q1, rfl, rfl, rfl, h1, r1⟩ := trodAll_cons r0
  obtain ⟨v2, vs2, d2, ds2, p2, q2, rfl, rfl, rfl, h2, r2⟩ := trodAll_cons r1
  obtain ⟨rfl, rfl, rfl⟩ := trodAll_nil r2
  obtain rfl : args = #[v0, v1, v2] := by cases args; simp_all
  obtain ⟨rfl, rfl⟩ := trodVars_none hV
  have k0 := h0
  have lt0 : ∀ x ∈ p0, x.block < W.heap.size := by obtain ⟨m, hm⟩ := k0; exact DataW.trod_lt m _ _ _ hm
  have sz0 : (d0.weights Try.prog 23).all (· ≤ reachBytes) = true := List.all_eq_true.2 fun m hm => List.all_eq_true.1 hsz m (DataW.weights_mem_each (j := 0) rfl rfl m hm)
  obtain ⟨q0, rfl, w0⟩ : ∃ q, v0 = .agg ((fun q : Int × Int × Int => [.int .i64 q.1, .int .i64 q.2.1, .int .i64 q.2.2]) q).toArray ∧ (fun q => (Lit.int .i64 q.1).wf = true ∧ (Lit.int .i64 q.2.1).wf = true ∧ (Lit.int .i64 q.2.2).wf = true) q := by
    obtain ⟨fuel, hf⟩ := h0
    exact Ag.one_arg kd23 Try.underlying23 (hval 0 23 v0 rfl rfl) hf sz0
  have k1 := h1
  have lt1 : ∀ x ∈ p1, x.block < W.heap.size := by obtain ⟨m, hm⟩ := k1; exact DataW.trod_lt m _ _ _ hm
  have sz1 : (d1.weights Try.prog 25).all (· ≤ reachBytes) = true := List.all_eq_true.2 fun m hm => List.all_eq_true.1 hsz m (DataW.weights_mem_each (j := 1) rfl rfl m hm)
  obtain ⟨q1, rfl, w1⟩ : ∃ q, v1 = .agg ((fun q : Bool × Int × Int × Int => [.bool q.1, .int .i64 q.2.1, .int .i64 q.2.2.1, .int .i64 q.2.2.2]) q).toArray ∧ (fun q => (Lit.int .i64 q.2.1).wf = true ∧ (Lit.int .i64 q.2.2.1).wf = true ∧ (Lit.int .i64 q.2.2.2).wf = true) q := by
    obtain ⟨fuel, hf⟩ := h1
    exact Ag.one_arg kd25 Try.underlying25 (hval 1 25 v1 rfl rfl) hf sz1
  obtain ⟨a2, rfl, rfl, rfl, w2⟩ := open_int Try.underlying3 (hval 2 3 v2 rfl rfl) h2
  clear hA0 hsz0 hsz
  refine (walk q0 q1 a2 W w0 w1 w2).mono fun e W' ⟨he, bel⟩ => ?_
  subst he
  exact ⟨_, rfl, _, _, _, [], _, [], hW', trodAll_mk1 (shut_bool Try.underlying4 _), (trodAll_cons_mk (Below.trod laidOut (by kernel_rfl) (of_decide_eq_true (by kernel_rfl)) k0 bel lt0) (trodAll_cons_mk (Below.trod laidOut (by kernel_rfl) (of_decide_eq_true (by kernel_rfl)) k1 bel lt1) (trodAll_cons_mk (shut_int Try.underlying3 w2) trodAll_mk0))), rfl, bel.frame _, fun h => by cases h⟩

noncomputable def laidWorld (os : Os) : World :=
  World.holding Try.prog os ⟨#[], #[], []⟩
theorem laid_met (os : Os) : laidMet Try.prog Rows.rtoSettlesRow.laid ((laidWorld os).forCall (fun _ _ => 0) ⟨#[], #[.agg #[.int .i64 0, .int .i64 0, .int .i64 0], .agg #[.bool false, .int .i64 0, .int .i64 0, .int .i64 0], .int .i64 0], []⟩).memory :=
  laidMet_of_run' 8 (by kernel_rfl) (by kernel_rfl)
theorem reads (os : Os) {H : Type} (enc : TypeId × Value → H) : ∃ places, DataW.whole enc Try.prog ((laidWorld os).forCall (fun _ _ => 0) ⟨#[], #[.agg #[.int .i64 0, .int .i64 0, .int .i64 0], .agg #[.bool false, .int .i64 0, .int .i64 0, .int .i64 0], .int .i64 0], []⟩).memory Try.f5.params.toList Rows.rtoSettlesSpec.vars false #[Value.agg #[.int .i64 0, .int .i64 0, .int .i64 0], Value.agg #[.bool false, .int .i64 0, .int .i64 0, .int .i64 0], Value.int .i64 0].toList 8 = some ([.agg [.lit (.int .i64 0), .lit (.int .i64 0), .lit (.int .i64 0)], .agg [.lit (.bool false), .lit (.int .i64 0), .lit (.int .i64 0), .lit (.int .i64 0)], .lit (.int .i64 0)], [], places) :=
  ⟨[], by kernel_rfl⟩

set_option maxRecDepth 100000 in
theorem lifted (os : Os) (started : os.Started) (H : Type) (enc : TypeId × Value → H) (F : Stop.Interp) :
    ReturnsInHanded {} Try.checked os 5 .any ((OpenSpec.ofChange Rows.rtoSettlesSpec).preRow enc Try.prog Try.f5 Rows.rtoSettlesRow.domain false Rows.rtoSettlesRow.laid) (((OpenSpec.ofChange Rows.rtoSettlesSpec).at F).post enc Try.prog Try.f5 false true false false) := by
  obtain ⟨places, hx⟩ := reads os enc
  refine returnsInHanded_of_row (C := Try.checked) (s := OpenSpec.ofChange Rows.rtoSettlesSpec) own started (by kernel_rfl) Try.func5
    (witness_row_at (enc := enc) (C := Try.checked) false (laidWorld os) #[.agg #[.int .i64 0, .int .i64 0, .int .i64 0], .agg #[.bool false, .int .i64 0, .int .i64 0, .int .i64 0], .int .i64 0] rfl (by kernel_rfl) (by kernel_rfl) (by kernel_rfl)
      (OpenSpec.preRow_of_cond 8 hx (by kernel_rfl) (fun k hk => by cases hk) (by kernel_rfl) (laid_met os))) ?_
  intro W base args ds gs before hval hW _ hcond hsz hL _ _
  exact contract H enc W base args ds gs before hval hW hsz

theorem said : Rows.RtoSettlesSaid :=
  OpenClaim.holds_of_cond 5 Try.f5 rfl rfl rfl rfl rfl rfl rfl ⟨rfl, rfl, rfl, rfl, rfl⟩ rfl rfl rfl rfl rfl (by kernel_rfl) Try.func5 (by kernel_rfl)
    (of_decide_eq_true (by kernel_rfl)) (by unfold Func.isWrapper; first | (rw [if_pos (by decide +kernel)]; kernel_rfl) | (rw [if_neg (by decide +kernel)]; exact ⟨rfl, rfl⟩))
    (fun os started H enc _ F => by rw [OpenClaim.pre_eq_preRow]; exact lifted os started H enc F)

/-- THE STATEMENT -/
theorem proved : Rows.RtoSettlesSaid := said
#print axioms proved
end Go.Proofs.Ythfhcepfomghoaa.rtoSettles
