/-
  What SchedBest says of every call is true: no path is told while another one's state is better, and a chunk is sent anew on another path whenever there is one as good (P18.3). Conditions: none.
-/
import Derived.Test.YtcflcibncbipbaaRows
import Derived.WalkKit
import Derived.ProofKit
import Derived.OpenShut
import Derived.ShutString
import Derived.ChangeOld
import Derived.Below
import Derived.SizedLaws
import Derived.Deep.DeepHandedRow
import Derived.LaidLaws
import Derived.ChangeMaps5
import Derived.Test.YtcflcibncbipbaaScR
import Derived.Test.YtcflcibncbipbaaAg
namespace Go.Proofs.Ytcflcibncbipbaa.schedBest
open Go.ChangeShapes Go.WideShapes Go.ChangeAt Go.RowKit
open Go.ChangeMaps (open_string shut_string)
set_option linter.unusedVariables false

theorem own : ownKnob Try.prog.godebug = none := by kernel_rfl
theorem laidOut : laidOutB Try.prog = true := by kernel_rfl

theorem kd42 : Ag.Kind Try.prog 42 4 (fun q : Int × Int × Int × Bool => [.int .i64 q.1, .int .i64 q.2.1, .int .i64 q.2.2.1, .bool q.2.2.2]) (fun q => (Lit.int .i64 q.1).wf = true ∧ (Lit.int .i64 q.2.1).wf = true ∧ (Lit.int .i64 q.2.2.1).wf = true) := by
  refine ⟨by kernel_rfl, by decide, fun _ => rfl, fun {H enc W base held fuel cl x} h _ => ?_⟩
  obtain ⟨xs, n, _, _, hcl, hxl, hfield⟩ := DataW.trod_struct Try.underlying42 h
  rw [show Try.prog.cellsOf 42 = 4 by kernel_rfl] at hcl
  match cl, hcl with
  | [v0, v1, v2, v3], _ =>
    match xs, hxl with
    | [y0, y1, y2, y3], _ =>
      have g0 := hfield 0 _ rfl
      simp [show Try.prog.cellsOf 40 = 1 by kernel_rfl] at g0
      obtain ⟨n0, e0, _, w0⟩ := DataW.trod_int Try.underlying40 g0
      simp at e0
      subst e0
      have g1 := hfield 1 _ rfl
      simp [show Try.prog.cellsOf 3 = 1 by kernel_rfl] at g1
      obtain ⟨n1, e1, _, w1⟩ := DataW.trod_int Try.underlying3 g1
      simp at e1
      subst e1
      have g2 := hfield 2 _ rfl
      simp [show Try.prog.cellsOf 3 = 1 by kernel_rfl] at g2
      obtain ⟨n2, e2, _, w2⟩ := DataW.trod_int Try.underlying3 g2
      simp at e2
      subst e2
      have g3 := hfield 3 _ rfl
      simp [show Try.prog.cellsOf 4 = 1 by kernel_rfl] at g3
      obtain ⟨n3, e3, _⟩ := DataW.trod_bool Try.underlying4 g3
      simp at e3
      subst e3
      exact ⟨(n0, n1, n2, n3), rfl, w0, w1, w2⟩
open Ba (hidden Has Only)
open Ow (Own)
open Sc
set_option maxHeartbeats 8000000 in
set_option maxRecDepth 20000 in

theorem walk (a0 : Int) (a1 : Int) (a2 : Int) (a3 : Option Addr) (len3 cap3 : Nat) (z3 : List (Int × Int × Int × Bool)) (w : World) (w0 : (Lit.int .i64 a0).wf = true) (w1 : (Lit.int .i64 a1).wf = true) (w2 : (Lit.int .i64 a2).wf = true) (w3 : Ag.Rows (fun q : Int × Int × Int × Bool => [.int .i64 q.1, .int .i64 q.2.1, .int .i64 q.2.2.1, .bool q.2.2.2]) (fun q => (Lit.int .i64 q.1).wf = true ∧ (Lit.int .i64 q.2.1).wf = true ∧ (Lit.int .i64 q.2.2.1).wf = true) 4 w a3 len3 z3) (s3 : len3 ≤ cap3 ∧ cap3 * Try.prog.bytesOf 42 ≤ 140737488351232 ∧ (a3 = none → len3 = 0 ∧ cap3 = 0)) :
    Calls Try.prog 5 #[.int .i64 a0, .int .i64 a1, .int .i64 a2, .slice a3 len3 cap3] w fun e w' => e = .returned (.bool true) ∧ Below w.heap.size w w' := by
  have AW := hidden Sc.awake
  have A : Hid (∀ X, Below w.heap.size w X → Calls Try.prog 10 #[.int .i64 a0, .int .i64 a1, .slice a3 len3 cap3] X fun e w' => e = .returned (.tuple #[.int .i64 (nV a0 a1 z3), .bool (nB a0 a1 z3), .int .i64 (oE a0 z3)]) ∧ Below X.heap.size X w') := fun X hX => next (w3.later hX) a0 a1
  have B : Hid (∀ X, Below w.heap.size w X → Calls Try.prog 16 #[.int .i64 a2, .slice a3 len3 cap3] X fun e w' => e = .returned (.tuple #[.int .i64 (agV a2 z3), .int .i64 (agE a2 z3)]) ∧ Below X.heap.size X w') := fun X hX => again (w3.later hX) a2
  have L : Hid (∀ X, Below w.heap.size w X → Calls Try.prog 14 #[.slice a3 len3 cap3] X fun e w' => e = .returned (.int .i64 (chk z3)) ∧ Below X.heap.size X w') := fun X hX => rcheck (w3.later hX)
  have HB0 := hidden (Below.refl w.heap.size w)
  have hl : z3.length = len3 := w3.1
  by_cases hc : chk z3 = 0
  · have NB : Hid (nB a0 a1 z3 = true → (0 ≤ nV a0 a1 z3 ∧ nV a0 a1 z3 < len3) ∧ ¬ spc z3 (nV a0 a1 z3).toNat = 0 ∧ shr z3 (nV a0 a1 z3).toNat = true ∧ ∀ i : Nat, i < len3 → stt z3 (nV a0 a1 z3).toNat ≤ stt z3 i) := by
      intro h
      have := next_best h
      rw [hl] at this
      exact this
    have AB : Hid (agE a2 z3 = 0 → (0 ≤ agV a2 z3 ∧ agV a2 z3 < len3) ∧ (0 ≤ a2 ∧ a2 < len3) ∧ ∀ i : Nat, i < len3 → (i : Int) ≠ a2 → stt z3 (agV a2 z3).toNat ≤ stt z3 i ∧ (agV a2 z3 = a2 → stt z3 a2.toNat < stt z3 i)) := by
      intro h
      have := again_best h
      rw [hl] at this
      exact this
    have H := hidden w3
    rw [hc] at L
    have hn : len3 ≤ 140737488355328 := w3.2.2.1
    have hpos : 1 ≤ len3 := by have := (chk_0 hc).1; omega
    obtain ⟨b0, off0, rfl, hb0⟩ := Vs.open w3 (by omega)
    generalize oE a0 z3 = E at *
    generalize nV a0 a1 z3 = V at *
    generalize nB a0 a1 z3 = T at *
    generalize agV a2 z3 = Y at *
    generalize agE a2 z3 = F at *
    clear w0 w1 w2 w3 s3 hc hl
    go_enter Try.func5, Try.ntmps5
    go_wp2_with fail
    refine Calls.mono (AW.out _) ?_
    rintro e x1 ⟨rfl, hB⟩
    have HB1 := hidden hB
    clear hB AW
    go_wp2_with fail
    refine Calls.mono (A.out _ HB1.out) ?_
    rintro e x2 ⟨rfl, hB⟩
    have HB2 := hidden (HB1.out.trans (hB.mono HB1.out.size))
    clear hB A
    go_wp2_with fail
    refine Calls.mono (B.out _ HB2.out) ?_
    rintro e x3 ⟨rfl, hB⟩
    have HB3 := hidden (HB2.out.trans (hB.mono HB2.out.size))
    clear hB B
    go_wp2_with fail
    refine Calls.mono (L.out _ HB3.out) ?_
    rintro e x4 ⟨rfl, hB⟩
    have HB4 := hidden (HB3.out.trans (hB.mono HB3.out.size))
    clear hB L HB0 HB1 HB2 HB3
    go_wp2_with fail
    go_loopw [14] (fun i wr => ∃ q : Nat, q ≤ len3 ∧ i = .int .i64 (q : Int) ∧ Hid (Below w.heap.size w wr)) (fun i _ => len3 - (intOf i).toNat)
    case atStart => exact ⟨0, by omega, rfl, HB4.out⟩
    case round =>
      clear HB4
      obtain ⟨q, j2, rfl, HB⟩ := hrel
      by_cases hq : q < len3
      · have hqz : (q : Int) < (len3 : Int) := by omega
        have CE : Hid (∀ W, Below w.heap.size w W → ∀ k, k < len3 → W.cell? ⟨b0, off0 + k * 4, none⟩ = some (.int .i64 (stt z3 k)) ∧ W.cell? ⟨b0, off0 + k * 4 + 1, none⟩ = some (.int .i64 (spc z3 k)) ∧ W.cell? ⟨b0, off0 + k * 4 + 2, none⟩ = some (.int .i64 (trp z3 k)) ∧ W.cell? ⟨b0, off0 + k * 4 + 3, none⟩ = some (.bool (shr z3 k))) := fun W hW k hk => Vs.get (H.out.later hW) hk
        cases hT : T with
        | false =>
          have hT2 := hidden hT
          clear NB
          subst hT
          go_wp2_with fail
          go_quiet (fail)
          have D1 : Hid (Below w.heap.size w (wr.drewN nq)) := below_drewN HB.out nq
          generalize wr.drewN nq = W1 at *
          by_cases hF : F = 0
          · obtain ⟨⟨y0, y1⟩, ⟨m0, m1⟩, yb⟩ := AB.out hF
            have yb2 := yb q hq
            have cq := (CE.out _ D1.out q hq).1
            have cy := (CE.out _ D1.out Y.toNat (by omega)).1
            clear yb
            subst hF
            have ny0 : ¬ Y < 0 := by omega
            have ny1 : ¬ Y ≥ (len3 : Int) := by omega
            have nm0 : ¬ a2 < 0 := by omega
            have nm1 : ¬ a2 ≥ (len3 : Int) := by omega
            by_cases hqm : (q : Int) = a2
            · have hqn : ((q : Int) != a2) = false := by simp [hqm]
              have HQM := hidden hqm
              clear hqm
              clear yb2
              by_cases hls : stt z3 q < stt z3 Y.toNat
              · have hX : True := trivial
                go_wp2_with fail
                go_quiet (fail)
                have D2 : Hid (Below w.heap.size w (W1.drewN nq)) := below_drewN D1.out nq
                clear cq cy
                generalize W1.drewN nq = W2 at *
                by_cases hym : Y = a2
                · have hym2 : (Y == a2) = true := by simp [hym]
                  have HYM := hidden hym
                  clear hym
                  go_wp2_with fail
                  go_quiet (fail)
                  have D3 : Hid (Below w.heap.size w (W2.drewN nq)) := below_drewN D2.out nq
                  go_wp2
                  go_roundw
                  case rel => exact ⟨q + 1, by omega, by first | rfl | simp, D3.out⟩
                  case measure => simp [intOf]; omega
                · have hym2 : (Y == a2) = false := by simp [hym]
                  go_wp2_with fail
                  go_quiet (fail)
                  have D3 : Hid (Below w.heap.size w (W2.drewN nq)) := below_drewN D2.out nq
                  go_wp2
                  go_roundw
                  case rel => exact ⟨q + 1, by omega, by first | rfl | simp, D3.out⟩
                  case measure => simp [intOf]; omega
              · have hX : True := trivial
                have HLS := hidden (decide_eq_false hls)
                clear hls
                go_wp2_with fail
                have hls2 := HLS.out
                go_quiet (fail)
                have D2 : Hid (Below w.heap.size w (W1.drewN nq)) := below_drewN D1.out nq
                clear cq cy
                generalize W1.drewN nq = W2 at *
                by_cases hym : Y = a2
                · have hym2 : (Y == a2) = true := by simp [hym]
                  have HYM := hidden hym
                  clear hym
                  go_wp2_with fail
                  go_quiet (fail)
                  have D3 : Hid (Below w.heap.size w (W2.drewN nq)) := below_drewN D2.out nq
                  go_wp2
                  go_roundw
                  case rel => exact ⟨q + 1, by omega, by first | rfl | simp, D3.out⟩
                  case measure => simp [intOf]; omega
                · have hym2 : (Y == a2) = false := by simp [hym]
                  go_wp2_with fail
                  go_quiet (fail)
                  have D3 : Hid (Below w.heap.size w (W2.drewN nq)) := below_drewN D2.out nq
                  go_wp2
                  go_roundw
                  case rel => exact ⟨q + 1, by omega, by first | rfl | simp, D3.out⟩
                  case measure => simp [intOf]; omega
            · have hqn : ((q : Int) != a2) = true := by simp [hqm]
              obtain ⟨g1, g2⟩ := yb2 hqm
              have hls : ¬ stt z3 q < stt z3 Y.toNat := by omega
              have G2 := hidden g2
              clear g1 g2 yb2
              have HLS := hidden (decide_eq_false hls)
              clear hls
              go_wp2_with fail
              have hls2 := HLS.out
              go_quiet (fail)
              have D2 : Hid (Below w.heap.size w (W1.drewN nq)) := below_drewN D1.out nq
              clear cq cy
              generalize W1.drewN nq = W2 at *
              by_cases hym : Y = a2
              · have hym2 : (Y == a2) = true := by simp [hym]
                have hle : ¬ stt z3 q ≤ stt z3 a2.toNat := by have := G2.out hym; omega
                clear hym
                obtain ⟨cq2, _, _, _⟩ := CE.out _ D2.out q hq
                obtain ⟨cm2, _, _, _⟩ := CE.out _ D2.out a2.toNat (by omega)
                go_wp2_with fail
                go_quiet (fail)
                have D3 : Hid (Below w.heap.size w (W2.drewN nq)) := below_drewN D2.out nq
                go_wp2
                go_roundw
                case rel => exact ⟨q + 1, by omega, by first | rfl | simp, D3.out⟩
                case measure => simp [intOf]; omega
              · have hym2 : (Y == a2) = false := by simp [hym]
                go_wp2_with fail
                go_quiet (fail)
                have D3 : Hid (Below w.heap.size w (W2.drewN nq)) := below_drewN D2.out nq
                go_wp2
                go_roundw
                case rel => exact ⟨q + 1, by omega, by first | rfl | simp, D3.out⟩
                case measure => simp [intOf]; omega
          · go_wp2
            go_roundw
            case rel => exact ⟨q + 1, by omega, by first | rfl | simp, D1.out⟩
            case measure => simp [intOf]; omega
        | true =>
          obtain ⟨⟨v0, v1⟩, v2, v3, v4⟩ := NB.out hT
          have v5 := v4 q hq
          obtain ⟨d0, d1, _, d3⟩ := CE.out _ HB.out V.toNat (by omega)
          obtain ⟨e0, _, _, _⟩ := CE.out _ HB.out q hq
          rw [v3] at d3
          clear NB v4 v3
          subst hT
          have nv0 : ¬ V < 0 := by omega
          have nv1 : ¬ V ≥ (len3 : Int) := by omega
          have nv2 : (spc z3 V.toNat == 0) = false := by simp [v2]
          have nv5 : ¬ stt z3 q < stt z3 V.toNat := by omega
          go_wp2_with fail
          go_quiet (fail)
          have D1 : Hid (Below w.heap.size w (wr.drewN nq)) := below_drewN HB.out nq
          clear d0 d1 d3 e0 nv2 nv5
          generalize wr.drewN nq = W1 at *
          by_cases hF : F = 0
          · obtain ⟨⟨y0, y1⟩, ⟨m0, m1⟩, yb⟩ := AB.out hF
            have yb2 := yb q hq
            have cq := (CE.out _ D1.out q hq).1
            have cy := (CE.out _ D1.out Y.toNat (by omega)).1
            clear yb
            subst hF
            have ny0 : ¬ Y < 0 := by omega
            have ny1 : ¬ Y ≥ (len3 : Int) := by omega
            have nm0 : ¬ a2 < 0 := by omega
            have nm1 : ¬ a2 ≥ (len3 : Int) := by omega
            by_cases hqm : (q : Int) = a2
            · have hqn : ((q : Int) != a2) = false := by simp [hqm]
              have HQM := hidden hqm
              clear hqm
              clear yb2
              by_cases hls : stt z3 q < stt z3 Y.toNat
              · have hX : True := trivial
                go_wp2_with fail
                go_quiet (fail)
                have D2 : Hid (Below w.heap.size w (W1.drewN nq)) := below_drewN D1.out nq
                clear cq cy
                generalize W1.drewN nq = W2 at *
                by_cases hym : Y = a2
                · have hym2 : (Y == a2) = true := by simp [hym]
                  have HYM := hidden hym
                  clear hym
                  go_wp2_with fail
                  go_quiet (fail)
                  have D3 : Hid (Below w.heap.size w (W2.drewN nq)) := below_drewN D2.out nq
                  go_wp2
                  go_roundw
                  case rel => exact ⟨q + 1, by omega, by first | rfl | simp, D3.out⟩
                  case measure => simp [intOf]; omega
                · have hym2 : (Y == a2) = false := by simp [hym]
                  go_wp2_with fail
                  go_quiet (fail)
                  have D3 : Hid (Below w.heap.size w (W2.drewN nq)) := below_drewN D2.out nq
                  go_wp2
                  go_roundw
                  case rel => exact ⟨q + 1, by omega, by first | rfl | simp, D3.out⟩
                  case measure => simp [intOf]; omega
              · have hX : True := trivial
                have HLS := hidden (decide_eq_false hls)
                clear hls
                go_wp2_with fail
                have hls2 := HLS.out
                go_quiet (fail)
                have D2 : Hid (Below w.heap.size w (W1.drewN nq)) := below_drewN D1.out nq
                clear cq cy
                generalize W1.drewN nq = W2 at *
                by_cases hym : Y = a2
                · have hym2 : (Y == a2) = true := by simp [hym]
                  have HYM := hidden hym
                  clear hym
                  go_wp2_with fail
                  go_quiet (fail)
                  have D3 : Hid (Below w.heap.size w (W2.drewN nq)) := below_drewN D2.out nq
                  go_wp2
                  go_roundw
                  case rel => exact ⟨q + 1, by omega, by first | rfl | simp, D3.out⟩
                  case measure => simp [intOf]; omega
                · have hym2 : (Y == a2) = false := by simp [hym]
                  go_wp2_with fail
                  go_quiet (fail)
                  have D3 : Hid (Below w.heap.size w (W2.drewN nq)) := below_drewN D2.out nq
                  go_wp2
                  go_roundw
                  case rel => exact ⟨q + 1, by omega, by first | rfl | simp, D3.out⟩
                  case measure => simp [intOf]; omega
            · have hqn : ((q : Int) != a2) = true := by simp [hqm]
              obtain ⟨g1, g2⟩ := yb2 hqm
              have hls : ¬ stt z3 q < stt z3 Y.toNat := by omega
              have G2 := hidden g2
              clear g1 g2 yb2
              have HLS := hidden (decide_eq_false hls)
              clear hls
              go_wp2_with fail
              have hls2 := HLS.out
              go_quiet (fail)
              have D2 : Hid (Below w.heap.size w (W1.drewN nq)) := below_drewN D1.out nq
              clear cq cy
              generalize W1.drewN nq = W2 at *
              by_cases hym : Y = a2
              · have hym2 : (Y == a2) = true := by simp [hym]
                have hle : ¬ stt z3 q ≤ stt z3 a2.toNat := by have := G2.out hym; omega
                clear hym
                obtain ⟨cq2, _, _, _⟩ := CE.out _ D2.out q hq
                obtain ⟨cm2, _, _, _⟩ := CE.out _ D2.out a2.toNat (by omega)
                go_wp2_with fail
                go_quiet (fail)
                have D3 : Hid (Below w.heap.size w (W2.drewN nq)) := below_drewN D2.out nq
                go_wp2
                go_roundw
                case rel => exact ⟨q + 1, by omega, by first | rfl | simp, D3.out⟩
                case measure => simp [intOf]; omega
              · have hym2 : (Y == a2) = false := by simp [hym]
                go_wp2_with fail
                go_quiet (fail)
                have D3 : Hid (Below w.heap.size w (W2.drewN nq)) := below_drewN D2.out nq
                go_wp2
                go_roundw
                case rel => exact ⟨q + 1, by omega, by first | rfl | simp, D3.out⟩
                case measure => simp [intOf]; omega
          · go_wp2
            go_roundw
            case rel => exact ⟨q + 1, by omega, by first | rfl | simp, D1.out⟩
            case measure => simp [intOf]; omega
      · obtain rfl : q = len3 := by omega
        go_wp2
        go_ret
        exact ⟨rfl, HB.out⟩
  · have hT : nB a0 a1 z3 = false := (n_nil (o_no hc a0 a1).2).2
    have hE : oE a0 z3 = chk z3 := (o_no hc a0 a1).1
    have hF : agE a2 z3 = chk z3 := (ag_no hc a2).1
    rw [hT, hE] at A
    rw [hF] at B
    have hc2 : (chk z3 == 0) = false := by simp [hc]
    generalize nV a0 a1 z3 = V at *
    generalize agV a2 z3 = Y at *
    generalize chk z3 = C at *
    clear w0 w1 w2 w3 s3 hT hE hF
    go_enter Try.func5, Try.ntmps5
    go_wp2_with fail
    refine Calls.mono (AW.out _) ?_
    rintro e x1 ⟨rfl, hB⟩
    have HB1 := hidden hB
    clear hB AW
    go_wp2_with fail
    refine Calls.mono (A.out _ HB1.out) ?_
    rintro e x2 ⟨rfl, hB⟩
    have HB2 := hidden (HB1.out.trans (hB.mono HB1.out.size))
    clear hB A
    go_wp2_with fail
    refine Calls.mono (B.out _ HB2.out) ?_
    rintro e x3 ⟨rfl, hB⟩
    have HB3 := hidden (HB2.out.trans (hB.mono HB2.out.size))
    clear hB B
    go_wp2_with fail
    refine Calls.mono (L.out _ HB3.out) ?_
    rintro e x4 ⟨rfl, hB⟩
    have HB4 := hidden (HB3.out.trans (hB.mono HB3.out.size))
    clear hB
    go_wp2_with fail
    refine Calls.mono (L.out _ HB4.out) ?_
    rintro e x5 ⟨rfl, hB⟩
    have HB5 := hidden (HB4.out.trans (hB.mono HB4.out.size))
    clear hB L
    go_wp2
    go_ret
    exact ⟨rfl, HB5.out⟩

theorem contract (H : Type) (enc : TypeId × Value → H) (W : World) (base : Nat) (args : Array Value) (ds gs : List (DataW H)) (before : List MemPlace)
    (hval : ∀ (j : Nat) t v, Try.f5.params[j]? = some t → args[j]? = some v → Value.okWide Try.prog W .any base t v)
    (hW : DataW.Whole enc Try.prog Try.f5.params.toList Rows.schedBestSpec.vars false W args.toList ds gs before)
    (hsz0 : (DataW.weightsEach Try.prog (Try.f5.params.toList ++ Rows.schedBestSpec.plain.varTypes Try.prog) (ds ++ gs)).all (· ≤ reachBytes) = true) :
    Calls Try.prog 5 args W fun e W' => ∃ v, e = .returned v ∧ Rows.schedBestSpec.post enc Try.prog Try.f5 false true false false W args v W' := by
  have hW' := hW
  obtain ⟨p, q, hA0, hV, rfl, hfz, hnd⟩ := hW
  have hA : DataW.TrodAll enc Try.prog W 0 (fun _ => true) true Try.f5.params.toList args.toList ds p := hA0
  have hsz := hsz0
  rw [Try.params5] at hA hval hsz
  obtain ⟨v0, vs0, d0, ds0, p0, q0, hargs, rfl, rfl, h0, r0⟩ := trodAll_cons hA
  obtain ⟨v1, vs1, d1, ds1, p1, q1, rfl, rfl, rfl, h1, r1⟩ := trodAll_cons r0
  obtain ⟨v2, vs2, d2, ds2, p2, q2, rfl, rfl, rfl, h2, r2⟩ := trodAll_cons r1
  obtain ⟨v3, vs3, d3, ds3, p3, q3, rfl, rfl, rfl, h3, r3⟩ := trodAll_cons r2
  obtain ⟨rfl, rfl, rfl⟩ := trodAll_nil r3
  obtain rfl : args = #[v0, v1, v2, v3] := by cases args; simp_all
  obtain ⟨rfl, rfl⟩ := trodVars_none hV
  obtain ⟨a0, rfl, rfl, rfl, w0⟩ := open_int Try.underlying3 (hval 0 3 v0 rfl rfl) h0
  obtain ⟨a1, rfl, rfl, rfl, w1⟩ := open_int Try.underlying3 (hval 1 3 v1 rfl rfl) h1
  obtain ⟨a2, rfl, rfl, rfl, w2⟩ := open_int Try.underlying3 (hval 2 3 v2 rfl rfl) h2
  obtain ⟨a3, len3, cap3, rfl⟩ := okWide_slice Try.underlying22 (hval 3 22 v3 rfl rfl)
  have k3 := h3
  have lt3 : ∀ x ∈ p3, x.block < W.heap.size := by obtain ⟨m, hm⟩ := k3; exact DataW.trod_lt m _ _ _ hm
  have sz3 : (d3.weights Try.prog 22).all (· ≤ reachBytes) = true := List.all_eq_true.2 fun m hm => List.all_eq_true.1 hsz m (DataW.weights_mem_each (j := 3) rfl rfl m hm)
  obtain ⟨z3, w3, s3⟩ : ∃ zs, Ag.Rows (fun q : Int × Int × Int × Bool => [.int .i64 q.1, .int .i64 q.2.1, .int .i64 q.2.2.1, .bool q.2.2.2]) (fun q => (Lit.int .i64 q.1).wf = true ∧ (Lit.int .i64 q.2.1).wf = true ∧ (Lit.int .i64 q.2.2.1).wf = true) 4 W a3 len3 zs ∧ len3 ≤ cap3 ∧ cap3 * Try.prog.bytesOf 42 ≤ 140737488351232 ∧ (a3 = none → len3 = 0 ∧ cap3 = 0) := by
    obtain ⟨fuel, hf⟩ := h3
    exact Ag.rows_arg kd42 Try.underlying22 (Nat.le_of_ble_eq_true (by kernel_rfl)) hf sz3
  clear hA0 hsz0 hsz
  refine (walk a0 a1 a2 a3 len3 cap3 z3 W w0 w1 w2 w3 s3).mono fun e W' ⟨he, bel⟩ => ?_
  subst he
  exact ⟨_, rfl, _, _, _, [], _, [], hW', trodAll_mk1 (shut_bool Try.underlying4 _), (trodAll_cons_mk (shut_int Try.underlying3 w0) (trodAll_cons_mk (shut_int Try.underlying3 w1) (trodAll_cons_mk (shut_int Try.underlying3 w2) (trodAll_cons_mk (Below.trod laidOut (by kernel_rfl) (of_decide_eq_true (by kernel_rfl)) k3 bel lt3) trodAll_mk0)))), rfl, bel.frame _, fun h => by cases h⟩

noncomputable def laidWorld (os : Os) : World :=
  World.holding Try.prog os ⟨#[], #[], []⟩
theorem laid_met (os : Os) : laidMet Try.prog Rows.schedBestRow.laid ((laidWorld os).forCall (fun _ _ => 0) ⟨#[], #[.int .i64 0, .int .i64 0, .int .i64 0, .slice none 0 0], []⟩).memory :=
  laidMet_of_run' 8 (by kernel_rfl) (by kernel_rfl)
theorem reads (os : Os) {H : Type} (enc : TypeId × Value → H) : ∃ places, DataW.whole enc Try.prog ((laidWorld os).forCall (fun _ _ => 0) ⟨#[], #[.int .i64 0, .int .i64 0, .int .i64 0, .slice none 0 0], []⟩).memory Try.f5.params.toList Rows.schedBestSpec.vars false #[Value.int .i64 0, Value.int .i64 0, Value.int .i64 0, Value.slice none 0 0].toList 8 = some ([.lit (.int .i64 0), .lit (.int .i64 0), .lit (.int .i64 0), .nil], [], places) :=
  ⟨[], by kernel_rfl⟩

set_option maxRecDepth 100000 in
theorem lifted (os : Os) (started : os.Started) (H : Type) (enc : TypeId × Value → H) (F : Stop.Interp) :
    ReturnsInHanded {} Try.checked os 5 .any ((OpenSpec.ofChange Rows.schedBestSpec).preRow enc Try.prog Try.f5 Rows.schedBestRow.domain false Rows.schedBestRow.laid) (((OpenSpec.ofChange Rows.schedBestSpec).at F).post enc Try.prog Try.f5 false true false false) := by
  obtain ⟨places, hx⟩ := reads os enc
  refine returnsInHanded_of_row (C := Try.checked) (s := OpenSpec.ofChange Rows.schedBestSpec) own started (by kernel_rfl) Try.func5
    (witness_row_at (enc := enc) (C := Try.checked) false (laidWorld os) #[.int .i64 0, .int .i64 0, .int .i64 0, .slice none 0 0] rfl (by kernel_rfl) (by kernel_rfl) (by kernel_rfl)
      (OpenSpec.preRow_of_cond 8 hx (by kernel_rfl) (fun k hk => by cases hk) (by kernel_rfl) (laid_met os))) ?_
  intro W base args ds gs before hval hW _ hcond hsz hL _ _
  exact contract H enc W base args ds gs before hval hW hsz

theorem said : Rows.SchedBestSaid :=
  OpenClaim.holds_of_cond 5 Try.f5 rfl rfl rfl rfl rfl rfl rfl ⟨rfl, rfl, rfl, rfl, rfl⟩ rfl rfl rfl rfl rfl (by kernel_rfl) Try.func5 (by kernel_rfl)
    (of_decide_eq_true (by kernel_rfl)) (by unfold Func.isWrapper; first | (rw [if_pos (by decide +kernel)]; kernel_rfl) | (rw [if_neg (by decide +kernel)]; exact ⟨rfl, rfl⟩))
    (fun os started H enc _ F => by rw [OpenClaim.pre_eq_preRow]; exact lifted os started H enc F)

/-- THE STATEMENT -/
theorem proved : Rows.SchedBestSaid := said
#print axioms proved
end Go.Proofs.Ytcflcibncbipbaa.schedBest
