/-
  What RtoSteps says of every call is true: Check, Start, Measure, Backoff and Trip answer as the document says, whatever bounds, state and number come in (P10.1 to P10.3). Conditions: none.
-/
import Derived.Test.YthfhcepfomghoaaRows
import Derived.WalkKit
import Derived.ProofKit
import Derived.OpenShut
import Derived.ShutString
import Derived.ChangeOld
import Derived.Below
import Derived.SizedLaws
import Derived.Deep.DeepHandedRow
import Derived.LaidLaws
import Derived.ChangeMaps5
import Derived.Test.YthfhcepfomghoaaRtF
import Derived.Test.YthfhcepfomghoaaAg
namespace Go.Proofs.Ythfhcepfomghoaa.rtoSteps
open Go.ChangeShapes Go.WideShapes Go.ChangeAt Go.RowKit
open Go.ChangeMaps (open_string shut_string)
set_option linter.unusedVariables false

theorem own : ownKnob Try.prog.godebug = none := by kernel_rfl
theorem laidOut : laidOutB Try.prog = true := by kernel_rfl

theorem kd23 : Ag.Kind Try.prog 23 3 (fun q : Int × Int × Int => [.int .i64 q.1, .int .i64 q.2.1, .int .i64 q.2.2]) (fun q => (Lit.int .i64 q.1).wf = true ∧ (Lit.int .i64 q.2.1).wf = true ∧ (Lit.int .i64 q.2.2).wf = true) := by
  refine ⟨by kernel_rfl, by decide, fun _ => rfl, fun {H enc W base held fuel cl x} h _ => ?_⟩
  obtain ⟨xs, n, _, _, hcl, hxl, hfield⟩ := DataW.trod_struct Try.underlying23 h
  rw [show Try.prog.cellsOf 23 = 3 by kernel_rfl] at hcl
  match cl, hcl with
  | [v0, v1, v2], _ =>
    match xs, hxl with
    | [y0, y1, y2], _ =>
      have g0 := hfield 0 _ rfl
      simp [show Try.prog.cellsOf 3 = 1 by kernel_rfl] at g0
      obtain ⟨n0, e0, _, w0⟩ := DataW.trod_int Try.underlying3 g0
      simp at e0
      subst e0
      have g1 := hfield 1 _ rfl
      simp [show Try.prog.cellsOf 3 = 1 by kernel_rfl] at g1
      obtain ⟨n1, e1, _, w1⟩ := DataW.trod_int Try.underlying3 g1
      simp at e1
      subst e1
      have g2 := hfield 2 _ rfl
      simp [show Try.prog.cellsOf 3 = 1 by kernel_rfl] at g2
      obtain ⟨n2, e2, _, w2⟩ := DataW.trod_int Try.underlying3 g2
      simp at e2
      subst e2
      exact ⟨(n0, n1, n2), rfl, w0, w1, w2⟩
theorem kd25 : Ag.Kind Try.prog 25 4 (fun q : Bool × Int × Int × Int => [.bool q.1, .int .i64 q.2.1, .int .i64 q.2.2.1, .int .i64 q.2.2.2]) (fun q => (Lit.int .i64 q.2.1).wf = true ∧ (Lit.int .i64 q.2.2.1).wf = true ∧ (Lit.int .i64 q.2.2.2).wf = true) := by
  refine ⟨by kernel_rfl, by decide, fun _ => rfl, fun {H enc W base held fuel cl x} h _ => ?_⟩
  obtain ⟨xs, n, _, _, hcl, hxl, hfield⟩ := DataW.trod_struct Try.underlying25 h
  rw [show Try.prog.cellsOf 25 = 4 by kernel_rfl] at hcl
  match cl, hcl with
  | [v0, v1, v2, v3], _ =>
    match xs, hxl with
    | [y0, y1, y2, y3], _ =>
      have g0 := hfield 0 _ rfl
      simp [show Try.prog.cellsOf 4 = 1 by kernel_rfl] at g0
      obtain ⟨n0, e0, _⟩ := DataW.trod_bool Try.underlying4 g0
      simp at e0
      subst e0
      have g1 := hfield 1 _ rfl
      simp [show Try.prog.cellsOf 3 = 1 by kernel_rfl] at g1
      obtain ⟨n1, e1, _, w1⟩ := DataW.trod_int Try.underlying3 g1
      simp at e1
      subst e1
      have g2 := hfield 2 _ rfl
      simp [show Try.prog.cellsOf 3 = 1 by kernel_rfl] at g2
      obtain ⟨n2, e2, _, w2⟩ := DataW.trod_int Try.underlying3 g2
      simp at e2
      subst e2
      have g3 := hfield 3 _ rfl
      simp [show Try.prog.cellsOf 3 = 1 by kernel_rfl] at g3
      obtain ⟨n3, e3, _, w3⟩ := DataW.trod_int Try.underlying3 g3
      simp at e3
      subst e3
      exact ⟨(n0, n1, n2, n3), rfl, w1, w2, w3⟩
open Ba (hidden Has)
open Ow (Own)
open Rt
theorem eq25 (x y : Operand) (k : Bool) (s v t : Int) (w : World) : (do eqGuard .eql 25 x y (.agg #[.bool k, .int .i64 s, .int .i64 v, .int .i64 t]) (.agg #[.bool k, .int .i64 s, .int .i64 v, .int .i64 t]); binOp .eql 25 (.agg #[.bool k, .int .i64 s, .int .i64 v, .int .i64 t]) (.agg #[.bool k, .int .i64 s, .int .i64 v, .int .i64 t]) : Sem Value).run Try.prog w = .ok (.bool true) w := by
  simp [go_sem]
set_option maxRecDepth 100000 in
set_option maxHeartbeats 4000000 in

theorem walk (q0 : Int × Int × Int) (q1 : Bool × Int × Int × Int) (a2 : Int) (w : World) (w0 : (fun q => (Lit.int .i64 q.1).wf = true ∧ (Lit.int .i64 q.2.1).wf = true ∧ (Lit.int .i64 q.2.2).wf = true) q0) (w1 : (fun q => (Lit.int .i64 q.2.1).wf = true ∧ (Lit.int .i64 q.2.2.1).wf = true ∧ (Lit.int .i64 q.2.2.2).wf = true) q1) (w2 : (Lit.int .i64 a2).wf = true) :
    Calls Try.prog 3 #[.agg ((fun q : Int × Int × Int => [.int .i64 q.1, .int .i64 q.2.1, .int .i64 q.2.2]) q0).toArray, .agg ((fun q : Bool × Int × Int × Int => [.bool q.1, .int .i64 q.2.1, .int .i64 q.2.2.1, .int .i64 q.2.2.2]) q1).toArray, .int .i64 a2] w fun e w' => e = .returned (.bool true) ∧ Below w.heap.size w w' := by
  obtain ⟨i, mi, ma⟩ := q0
  obtain ⟨k, s, v, t⟩ := q1
  have M := hidden (measureX i mi ma k s v t a2)
  have RM := hidden (rMeasure i mi ma k s v t a2)
  have B := hidden (backoffX i mi ma k s v t)
  have RB := hidden (rBackoff i mi ma k s v t)
  have S := hidden (startX i mi ma)
  have RS := hidden (rStart i mi ma)
  have CX := hidden (checkX i mi ma k s v t)
  have RC := hidden (rCheck i mi ma k s v t)
  have TX := hidden (trip k (of_wf64 w1.1) v t)
  have RT := hidden (rTrip k (of_wf64 w1.1) v t)
  have AW := hidden Rt.awake
  have O := hidden (own2 w i mi ma k s v t 23)
  have ECX : Hid (∀ (args : Array Value) (w : World), (callFunc 13 args).run Try.prog w = .ok (.enter 13 args) w) := enters_of Try.func13 (by kernel_rfl) rfl
  have ERC : Hid (∀ (args : Array Value) (w : World), (callFunc 14 args).run Try.prog w = .ok (.enter 14 args) w) := enters_of Try.func14 (by kernel_rfl) rfl
  have ETX : Hid (∀ (args : Array Value) (w : World), (callFunc 15 args).run Try.prog w = .ok (.enter 15 args) w) := enters_of Try.func15 (by kernel_rfl) rfl
  have ERT : Hid (∀ (args : Array Value) (w : World), (callFunc 16 args).run Try.prog w = .ok (.enter 16 args) w) := enters_of Try.func16 (by kernel_rfl) rfl
  have EAW : Hid (∀ (args : Array Value) (w : World), (callFunc 17 args).run Try.prog w = .ok (.enter 17 args) w) := enters_of Try.func17 (by kernel_rfl) rfl
  clear w0 w1 w2
  generalize ms i mi ma k s v t a2 = y1 at M RM
  generalize bo i mi ma k s v t = y2 at B RB
  generalize st i mi ma = y3 at S RS
  obtain ⟨p0, p1, p2, p3, p4⟩ := y1
  obtain ⟨b0, b1, b2, b3, b4⟩ := y2
  obtain ⟨x0, x1, x2, x3, x4⟩ := y3
  generalize chk i mi ma k s v t = c at CX RC
  generalize tripI s = q at TX RT
  unfold tv at M RM B RB S RS
  simp only at M RM B RB S RS
  go_enter Try.func3, Try.ntmps3
  go_wp2_with fail
  refine Calls.mono (M.out _) ?_
  rintro e w1 ⟨rfl, hB⟩
  have P1 := hidden (O.out.later hB)
  obtain ⟨⟨c0, c1, c2⟩, hl1⟩ := tim3 P1.out (.tail _ (.head _))
  obtain ⟨⟨d0, d1, d2, d3⟩, _⟩ := ans P1.out (b := w.heap.size + 1) (.head _)
  have hm1 := P1.out.lt (.head _)
  have O1 := hidden (P1.out.alloc #[.bool p0, .int .i64 p1, .int .i64 p2, .int .i64 p3] 25)
  clear hB O M P1
  go_wp2_with fail
  refine Calls.mono (RM.out _) ?_
  rintro e w2 ⟨rfl, hB⟩
  have P2 := hidden (O1.out.later hB)
  clear c0 c1 c2 d0 d1 d2 d3
  obtain ⟨⟨c0, c1, c2⟩, hl2⟩ := tim3 P2.out (.tail _ (.tail _ (.head _)))
  obtain ⟨⟨d0, d1, d2, d3⟩, _⟩ := ans P2.out (b := w.heap.size + 1) (.tail _ (.head _))
  have hm2 := P2.out.lt (.tail _ (.head _))
  have O2 := hidden (P2.out.alloc #[.bool p0, .int .i64 p1, .int .i64 p2, .int .i64 p3] 25)
  clear hB O1 RM P2
  go_wp2_with fail
  refine Calls.mono (B.out _) ?_
  rintro e w3 ⟨rfl, hB⟩
  have P3 := hidden (O2.out.later hB)
  clear c0 c1 c2 d0 d1 d2 d3
  obtain ⟨⟨c0, c1, c2⟩, hl3⟩ := tim3 P3.out (.tail _ (.tail _ (.tail _ (.head _))))
  obtain ⟨⟨d0, d1, d2, d3⟩, _⟩ := ans P3.out (b := w.heap.size + 1) (.tail _ (.tail _ (.head _)))
  have hm3 := P3.out.lt (.tail _ (.tail _ (.head _)))
  have O3 := hidden (P3.out.alloc #[.bool b0, .int .i64 b1, .int .i64 b2, .int .i64 b3] 25)
  clear hB O2 B P3
  go_wp2_with fail
  refine Calls.mono (RB.out _) ?_
  rintro e w4 ⟨rfl, hB⟩
  have P4 := hidden (O3.out.later hB)
  clear c0 c1 c2 d0 d1 d2 d3
  obtain ⟨⟨c0, c1, c2⟩, hl4⟩ := tim3 P4.out (.tail _ (.tail _ (.tail _ (.tail _ (.head _)))))
  obtain ⟨⟨d0, d1, d2, d3⟩, _⟩ := ans P4.out (b := w.heap.size + 1) (.tail _ (.tail _ (.tail _ (.head _))))
  have hm4 := P4.out.lt (.tail _ (.tail _ (.tail _ (.head _))))
  have O4 := hidden (P4.out.alloc #[.bool b0, .int .i64 b1, .int .i64 b2, .int .i64 b3] 25)
  clear hB O3 RB P4
  go_wp2_with fail
  refine Calls.mono (S.out _) ?_
  rintro e w5 ⟨rfl, hB⟩
  have P5 := hidden (O4.out.later hB)
  clear c0 c1 c2 d0 d1 d2 d3
  obtain ⟨⟨c0, c1, c2⟩, hl5⟩ := tim3 P5.out (.tail _ (.tail _ (.tail _ (.tail _ (.tail _ (.head _))))))
  obtain ⟨⟨d0, d1, d2, d3⟩, _⟩ := ans P5.out (b := w.heap.size + 1) (.tail _ (.tail _ (.tail _ (.tail _ (.head _)))))
  have hm5 := P5.out.lt (.tail _ (.tail _ (.tail _ (.tail _ (.head _)))))
  have O5 := hidden (P5.out.alloc #[.bool x0, .int .i64 x1, .int .i64 x2, .int .i64 x3] 25)
  clear hB O4 S P5
  go_wp2_with fail
  refine Calls.mono (RS.out _) ?_
  rintro e w6 ⟨rfl, hB⟩
  have P6 := hidden (O5.out.later hB)
  clear c0 c1 c2 d0 d1 d2 d3
  obtain ⟨⟨c0, c1, c2⟩, hl6⟩ := tim3 P6.out (.tail _ (.tail _ (.tail _ (.tail _ (.tail _ (.tail _ (.head _)))))))
  obtain ⟨⟨d0, d1, d2, d3⟩, _⟩ := ans P6.out (b := w.heap.size + 1) (.tail _ (.tail _ (.tail _ (.tail _ (.tail _ (.head _))))))
  have hm6 := P6.out.lt (.tail _ (.tail _ (.tail _ (.tail _ (.tail _ (.head _))))))
  have O6 := hidden (P6.out.alloc #[.bool x0, .int .i64 x1, .int .i64 x2, .int .i64 x3] 25)
  clear hB O5 RS P6
  clear c0 c1 c2 d0 d1 d2 d3
  go_upto_region 7 with fail
  refine Ord.wp_region_ex0 (X := Unit) (by kernel_rfl) 102 (fun x => [(some 55, .agg #[.bool p0, .int .i64 p1, .int .i64 p2, .int .i64 p3]), (some 56, .agg #[.bool p0, .int .i64 p1, .int .i64 p2, .int .i64 p3]), (some 57, .bool true), (some 58, .bool true), (some 59, .int .i64 p4), (some 60, .int .i64 p4), (some 61, .bool true), (some 62, .bool true), (some 63, .bool true), (some 64, .agg #[.bool b0, .int .i64 b1, .int .i64 b2, .int .i64 b3]), (some 65, .agg #[.bool b0, .int .i64 b1, .int .i64 b2, .int .i64 b3]), (some 66, .bool true), (some 67, .bool true), (some 68, .bool true), (some 69, .int .i64 b4), (some 70, .int .i64 b4), (some 71, .bool true), (some 72, .bool true), (some 73, .bool true), (some 74, .agg #[.bool x0, .int .i64 x1, .int .i64 x2, .int .i64 x3]), (some 75, .agg #[.bool x0, .int .i64 x1, .int .i64 x2, .int .i64 x3]), (some 76, .bool true), (some 77, .bool true), (some 78, .bool true), (some 79, .int .i64 x4), (some 80, .int .i64 x4), (some 81, .bool true), (some 82, .bool true), (some 83, .bool true), (some 84, .agg #[.int .i64 i, .int .i64 mi, .int .i64 ma]), (some 85, .agg #[.bool k, .int .i64 s, .int .i64 v, .int .i64 t]), (some 86, .int .i64 c), (some 87, .agg #[.int .i64 i, .int .i64 mi, .int .i64 ma]), (some 88, .agg #[.bool k, .int .i64 s, .int .i64 v, .int .i64 t]), (some 89, .int .i64 c), (some 90, .bool true), (some 91, .bool true), (some 92, .bool true), (some 93, .agg #[.bool k, .int .i64 s, .int .i64 v, .int .i64 t]), (some 94, .int .i64 q), (some 95, .agg #[.bool k, .int .i64 s, .int .i64 v, .int .i64 t]), (some 96, .int .i64 q), (some 97, .bool true), (some 98, .bool true), (some 99, .bool true), (some 100, .bool true), (some 101, .bool true), (some 6, .bool true)]) [some 55, some 56, some 57, some 58, some 59, some 60, some 61, some 62, some 63, some 64, some 65, some 66, some 67, some 68, some 69, some 70, some 71, some 72, some 73, some 74, some 75, some 76, some 77, some 78, some 79, some 80, some 81, some 82, some 83, some 84, some 85, some 86, some 87, some 88, some 89, some 90, some 91, some 92, some 93, some 94, some 95, some 96, some 97, some 98, some 99, some 100, some 101, some 6] rfl (fun listed hsz hr => Ord.all_listedC (rank := [0, 1, 2, 3, 4, 5, 6, 7, 8, 9, 10, 11, 12, 13, 14, 15, 16, 17, 18, 19, 20, 21, 22, 23, 24, 25, 26, 27, 28, 29, 30, 31, 32, 33, 34, 35, 36, 37, 38, 39, 40, 41, 42, 43, 44, 45, 46, 47]) (by kernel_rfl) hsz hr) (by rfl) (fun _ => rfl) (by kernel_rfl) (Rg.StM [31, 34, 39, 41, 45] (fun _ _ w' => Own w w' [(w6.heap.size, #[.bool x0, .int .i64 x1, .int .i64 x2, .int .i64 x3], 25), (w5.heap.size, #[.bool x0, .int .i64 x1, .int .i64 x2, .int .i64 x3], 25), (w4.heap.size, #[.bool b0, .int .i64 b1, .int .i64 b2, .int .i64 b3], 25), (w3.heap.size, #[.bool b0, .int .i64 b1, .int .i64 b2, .int .i64 b3], 25), (w2.heap.size, #[.bool p0, .int .i64 p1, .int .i64 p2, .int .i64 p3], 25), (w1.heap.size, #[.bool p0, .int .i64 p1, .int .i64 p2, .int .i64 p3], 25), (w.heap.size + 1, #[.bool k, .int .i64 s, .int .i64 v, .int .i64 t], 25), (w.heap.size, #[.int .i64 i, .int .i64 mi, .int .i64 ma], 23)])) (fun _ _ _ _ hL h => h.ext (n := 48) (by decide) hL) ?_ ?_ () ?_
  case refine_1 =>
    intro x Lq iq oq ac w' ho hi hcl hdep hF hW
    have f1 : ac.tmps.size = 102 := hF.1
    match iq, ho, hi, hdep with
    | 0, ho, hi, hdep =>
      cases ho
      have da0 : ac.eval (.tmp 7) = .pointer (some ⟨w1.heap.size, 0, none⟩) := hF.old 7 rfl
      obtain ⟨kq, hlo, hhi, hA⟩ := hW.range 0 0 (.inl rfl) (.inr ⟨31, rfl, (Rg.no_of (fun h => hcl 2 _ rfl (hcl 3 _ rfl (hcl 8 _ rfl (hcl 13 _ rfl (hcl 18 _ rfl (hcl 23 _ rfl (hcl 28 _ rfl (hcl 31 _ rfl (h) ⟨28, .chain⟩ (by simp) rfl) ⟨23, .chain⟩ (by simp) rfl) ⟨18, .chain⟩ (by simp) rfl) ⟨13, .chain⟩ (by simp) rfl) ⟨8, .chain⟩ (by simp) rfl) ⟨3, .chain⟩ (by simp) rfl) ⟨2, .data⟩ (by simp) rfl) ⟨0, .data⟩ (by simp) rfl) hi)⟩)
      obtain ⟨⟨c0, c1, c2, c3⟩, _⟩ := ans hA (.tail _ (.tail _ (.tail _ (.tail _ (.tail _ (.head _))))))
      exact Ord.ex_value x rfl rfl (Rg.load da0 rfl (by simp [go_sem, c0, c1, c2, c3])) rfl (hW.keep (by decide))
    | 1, ho, hi, hdep =>
      cases ho
      have da0 : ac.eval (.tmp 9) = .pointer (some ⟨w2.heap.size, 0, none⟩) := hF.old 9 rfl
      obtain ⟨kq, hlo, hhi, hA⟩ := hW.range 0 0 (.inl rfl) (.inr ⟨31, rfl, (Rg.no_of (fun h => hcl 2 _ rfl (hcl 3 _ rfl (hcl 8 _ rfl (hcl 13 _ rfl (hcl 18 _ rfl (hcl 23 _ rfl (hcl 28 _ rfl (hcl 31 _ rfl (h) ⟨28, .chain⟩ (by simp) rfl) ⟨23, .chain⟩ (by simp) rfl) ⟨18, .chain⟩ (by simp) rfl) ⟨13, .chain⟩ (by simp) rfl) ⟨8, .chain⟩ (by simp) rfl) ⟨3, .chain⟩ (by simp) rfl) ⟨2, .data⟩ (by simp) rfl) ⟨1, .data⟩ (by simp) rfl) hi)⟩)
      obtain ⟨⟨c0, c1, c2, c3⟩, _⟩ := ans hA (.tail _ (.tail _ (.tail _ (.tail _ (.head _)))))
      exact Ord.ex_value x rfl rfl (Rg.load da0 rfl (by simp [go_sem, c0, c1, c2, c3])) rfl (hW.keep (by decide))
    | 2, ho, hi, hdep =>
      cases ho
      have da0 : ac.eval (.tmp 55) = .agg #[.bool p0, .int .i64 p1, .int .i64 p2, .int .i64 p3] := hF.2.2.2 0 55 _ rfl (hdep ⟨0, .data⟩ (by simp) rfl)
      have da1 : ac.eval (.tmp 56) = .agg #[.bool p0, .int .i64 p1, .int .i64 p2, .int .i64 p3] := hF.2.2.2 1 56 _ rfl (hdep ⟨1, .data⟩ (by simp) rfl)
      exact Ord.ex_value x rfl rfl (Rg.bin da0 da1 rfl (eq25 _ _ _ _ _ _ _)) rfl (hW.keep (by decide))
    | 3, ho, hi, hdep =>
      cases ho
      have da0 : ac.eval (.tmp 57) = .bool true := hF.2.2.2 2 57 _ rfl (hdep ⟨2, .data⟩ (by simp) rfl)
      exact Ord.ex_value x rfl rfl (Rg.mv da0 rfl) rfl (hW.keep (by decide))
    | 4, ho, hi, hdep =>
      cases ho
      have dg : ac.eval (.tmp 58) = .bool true := hF.2.2.2 3 58 _ rfl (hdep ⟨3, .guard⟩ (by simp) rfl)
      have da0 : ac.eval (.tmp 8) = .int .i64 p4 := hF.old 8 rfl
      exact Ord.ex_value x rfl (Ord.wanted_of dg (by rw [f1]; decide) rfl rfl) (Rg.mv da0 rfl) rfl (hW.keep (by decide))
    | 5, ho, hi, hdep =>
      cases ho
      have dg : ac.eval (.tmp 58) = .bool true := hF.2.2.2 3 58 _ rfl (hdep ⟨3, .guard⟩ (by simp) rfl)
      have da0 : ac.eval (.tmp 10) = .int .i64 p4 := hF.old 10 rfl
      exact Ord.ex_value x rfl (Ord.wanted_of dg (by rw [f1]; decide) rfl rfl) (Rg.mv da0 rfl) rfl (hW.keep (by decide))
    | 6, ho, hi, hdep =>
      cases ho
      have dg : ac.eval (.tmp 58) = .bool true := hF.2.2.2 3 58 _ rfl (hdep ⟨3, .guard⟩ (by simp) rfl)
      have da0 : ac.eval (.tmp 59) = .int .i64 p4 := hF.2.2.2 4 59 _ rfl (hdep ⟨4, .data⟩ (by simp) rfl)
      have da1 : ac.eval (.tmp 60) = .int .i64 p4 := hF.2.2.2 5 60 _ rfl (hdep ⟨5, .data⟩ (by simp) rfl)
      exact Ord.ex_value x rfl (Ord.wanted_of dg (by rw [f1]; decide) rfl rfl) (Rg.bin da0 da1 rfl (by simp [go_sem])) rfl (hW.keep (by decide))
    | 7, ho, hi, hdep =>
      cases ho
      have da0 : ac.eval (.tmp 58) = .bool true := hF.2.2.2 3 58 _ rfl (hdep ⟨3, .data⟩ (by simp) rfl)
      have da1 : ac.eval (.tmp 61) = .bool true := hF.2.2.2 6 61 _ rfl (hdep ⟨6, .data⟩ (by simp) rfl)
      exact Ord.ex_value x rfl rfl (Rg.pick_t da0 da1 rfl) rfl (hW.keep (by decide))
    | 8, ho, hi, hdep =>
      cases ho
      have da0 : ac.eval (.tmp 62) = .bool true := hF.2.2.2 7 62 _ rfl (hdep ⟨7, .data⟩ (by simp) rfl)
      exact Ord.ex_value x rfl rfl (Rg.mv da0 rfl) rfl (hW.keep (by decide))
    | 9, ho, hi, hdep =>
      cases ho
      have dg : ac.eval (.tmp 63) = .bool true := hF.2.2.2 8 63 _ rfl (hdep ⟨8, .guard⟩ (by simp) rfl)
      have da0 : ac.eval (.tmp 11) = .pointer (some ⟨w3.heap.size, 0, none⟩) := hF.old 11 rfl
      obtain ⟨kq, hlo, hhi, hA⟩ := hW.range 0 0 (.inl rfl) (.inr ⟨31, rfl, (Rg.no_of (fun h => hcl 11 _ rfl (hcl 12 _ rfl (hcl 13 _ rfl (hcl 18 _ rfl (hcl 23 _ rfl (hcl 28 _ rfl (hcl 31 _ rfl (h) ⟨28, .chain⟩ (by simp) rfl) ⟨23, .chain⟩ (by simp) rfl) ⟨18, .chain⟩ (by simp) rfl) ⟨13, .chain⟩ (by simp) rfl) ⟨12, .data⟩ (by simp) rfl) ⟨11, .data⟩ (by simp) rfl) ⟨9, .data⟩ (by simp) rfl) hi)⟩)
      obtain ⟨⟨c0, c1, c2, c3⟩, _⟩ := ans hA (.tail _ (.tail _ (.tail _ (.head _))))
      exact Ord.ex_value x rfl (Ord.wanted_of dg (by rw [f1]; decide) rfl rfl) (Rg.load da0 rfl (by simp [go_sem, c0, c1, c2, c3])) rfl (hW.keep (by decide))
    | 10, ho, hi, hdep =>
      cases ho
      have dg : ac.eval (.tmp 63) = .bool true := hF.2.2.2 8 63 _ rfl (hdep ⟨8, .guard⟩ (by simp) rfl)
      have da0 : ac.eval (.tmp 13) = .pointer (some ⟨w4.heap.size, 0, none⟩) := hF.old 13 rfl
      obtain ⟨kq, hlo, hhi, hA⟩ := hW.range 0 0 (.inl rfl) (.inr ⟨31, rfl, (Rg.no_of (fun h => hcl 11 _ rfl (hcl 12 _ rfl (hcl 13 _ rfl (hcl 18 _ rfl (hcl 23 _ rfl (hcl 28 _ rfl (hcl 31 _ rfl (h) ⟨28, .chain⟩ (by simp) rfl) ⟨23, .chain⟩ (by simp) rfl) ⟨18, .chain⟩ (by simp) rfl) ⟨13, .chain⟩ (by simp) rfl) ⟨12, .data⟩ (by simp) rfl) ⟨11, .data⟩ (by simp) rfl) ⟨10, .data⟩ (by simp) rfl) hi)⟩)
      obtain ⟨⟨c0, c1, c2, c3⟩, _⟩ := ans hA (.tail _ (.tail _ (.head _)))
      exact Ord.ex_value x rfl (Ord.wanted_of dg (by rw [f1]; decide) rfl rfl) (Rg.load da0 rfl (by simp [go_sem, c0, c1, c2, c3])) rfl (hW.keep (by decide))
    | 11, ho, hi, hdep =>
      cases ho
      have dg : ac.eval (.tmp 63) = .bool true := hF.2.2.2 8 63 _ rfl (hdep ⟨8, .guard⟩ (by simp) rfl)
      have da0 : ac.eval (.tmp 64) = .agg #[.bool b0, .int .i64 b1, .int .i64 b2, .int .i64 b3] := hF.2.2.2 9 64 _ rfl (hdep ⟨9, .data⟩ (by simp) rfl)
      have da1 : ac.eval (.tmp 65) = .agg #[.bool b0, .int .i64 b1, .int .i64 b2, .int .i64 b3] := hF.2.2.2 10 65 _ rfl (hdep ⟨10, .data⟩ (by simp) rfl)
      exact Ord.ex_value x rfl (Ord.wanted_of dg (by rw [f1]; decide) rfl rfl) (Rg.bin da0 da1 rfl (eq25 _ _ _ _ _ _ _)) rfl (hW.keep (by decide))
    | 12, ho, hi, hdep =>
      cases ho
      have da0 : ac.eval (.tmp 63) = .bool true := hF.2.2.2 8 63 _ rfl (hdep ⟨8, .data⟩ (by simp) rfl)
      have da1 : ac.eval (.tmp 66) = .bool true := hF.2.2.2 11 66 _ rfl (hdep ⟨11, .data⟩ (by simp) rfl)
      exact Ord.ex_value x rfl rfl (Rg.pick_t da0 da1 rfl) rfl (hW.keep (by decide))
    | 13, ho, hi, hdep =>
      cases ho
      have da0 : ac.eval (.tmp 67) = .bool true := hF.2.2.2 12 67 _ rfl (hdep ⟨12, .data⟩ (by simp) rfl)
      exact Ord.ex_value x rfl rfl (Rg.mv da0 rfl) rfl (hW.keep (by decide))
    | 14, ho, hi, hdep =>
      cases ho
      have dg : ac.eval (.tmp 68) = .bool true := hF.2.2.2 13 68 _ rfl (hdep ⟨13, .guard⟩ (by simp) rfl)
      have da0 : ac.eval (.tmp 12) = .int .i64 b4 := hF.old 12 rfl
      exact Ord.ex_value x rfl (Ord.wanted_of dg (by rw [f1]; decide) rfl rfl) (Rg.mv da0 rfl) rfl (hW.keep (by decide))
    | 15, ho, hi, hdep =>
      cases ho
      have dg : ac.eval (.tmp 68) = .bool true := hF.2.2.2 13 68 _ rfl (hdep ⟨13, .guard⟩ (by simp) rfl)
      have da0 : ac.eval (.tmp 14) = .int .i64 b4 := hF.old 14 rfl
      exact Ord.ex_value x rfl (Ord.wanted_of dg (by rw [f1]; decide) rfl rfl) (Rg.mv da0 rfl) rfl (hW.keep (by decide))
    | 16, ho, hi, hdep =>
      cases ho
      have dg : ac.eval (.tmp 68) = .bool true := hF.2.2.2 13 68 _ rfl (hdep ⟨13, .guard⟩ (by simp) rfl)
      have da0 : ac.eval (.tmp 69) = .int .i64 b4 := hF.2.2.2 14 69 _ rfl (hdep ⟨14, .data⟩ (by simp) rfl)
      have da1 : ac.eval (.tmp 70) = .int .i64 b4 := hF.2.2.2 15 70 _ rfl (hdep ⟨15, .data⟩ (by simp) rfl)
      exact Ord.ex_value x rfl (Ord.wanted_of dg (by rw [f1]; decide) rfl rfl) (Rg.bin da0 da1 rfl (by simp [go_sem])) rfl (hW.keep (by decide))
    | 17, ho, hi, hdep =>
      cases ho
      have da0 : ac.eval (.tmp 68) = .bool true := hF.2.2.2 13 68 _ rfl (hdep ⟨13, .data⟩ (by simp) rfl)
      have da1 : ac.eval (.tmp 71) = .bool true := hF.2.2.2 16 71 _ rfl (hdep ⟨16, .data⟩ (by simp) rfl)
      exact Ord.ex_value x rfl rfl (Rg.pick_t da0 da1 rfl) rfl (hW.keep (by decide))
    | 18, ho, hi, hdep =>
      cases ho
      have da0 : ac.eval (.tmp 72) = .bool true := hF.2.2.2 17 72 _ rfl (hdep ⟨17, .data⟩ (by simp) rfl)
      exact Ord.ex_value x rfl rfl (Rg.mv da0 rfl) rfl (hW.keep (by decide))
    | 19, ho, hi, hdep =>
      cases ho
      have dg : ac.eval (.tmp 73) = .bool true := hF.2.2.2 18 73 _ rfl (hdep ⟨18, .guard⟩ (by simp) rfl)
      have da0 : ac.eval (.tmp 15) = .pointer (some ⟨w5.heap.size, 0, none⟩) := hF.old 15 rfl
      obtain ⟨kq, hlo, hhi, hA⟩ := hW.range 0 0 (.inl rfl) (.inr ⟨31, rfl, (Rg.no_of (fun h => hcl 21 _ rfl (hcl 22 _ rfl (hcl 23 _ rfl (hcl 28 _ rfl (hcl 31 _ rfl (h) ⟨28, .chain⟩ (by simp) rfl) ⟨23, .chain⟩ (by simp) rfl) ⟨22, .data⟩ (by simp) rfl) ⟨21, .data⟩ (by simp) rfl) ⟨19, .data⟩ (by simp) rfl) hi)⟩)
      obtain ⟨⟨c0, c1, c2, c3⟩, _⟩ := ans hA (.tail _ (.head _))
      exact Ord.ex_value x rfl (Ord.wanted_of dg (by rw [f1]; decide) rfl rfl) (Rg.load da0 rfl (by simp [go_sem, c0, c1, c2, c3])) rfl (hW.keep (by decide))
    | 20, ho, hi, hdep =>
      cases ho
      have dg : ac.eval (.tmp 73) = .bool true := hF.2.2.2 18 73 _ rfl (hdep ⟨18, .guard⟩ (by simp) rfl)
      have da0 : ac.eval (.tmp 17) = .pointer (some ⟨w6.heap.size, 0, none⟩) := hF.old 17 rfl
      obtain ⟨kq, hlo, hhi, hA⟩ := hW.range 0 0 (.inl rfl) (.inr ⟨31, rfl, (Rg.no_of (fun h => hcl 21 _ rfl (hcl 22 _ rfl (hcl 23 _ rfl (hcl 28 _ rfl (hcl 31 _ rfl (h) ⟨28, .chain⟩ (by simp) rfl) ⟨23, .chain⟩ (by simp) rfl) ⟨22, .data⟩ (by simp) rfl) ⟨21, .data⟩ (by simp) rfl) ⟨20, .data⟩ (by simp) rfl) hi)⟩)
      obtain ⟨⟨c0, c1, c2, c3⟩, _⟩ := ans hA (.head _)
      exact Ord.ex_value x rfl (Ord.wanted_of dg (by rw [f1]; decide) rfl rfl) (Rg.load da0 rfl (by simp [go_sem, c0, c1, c2, c3])) rfl (hW.keep (by decide))
    | 21, ho, hi, hdep =>
      cases ho
      have dg : ac.eval (.tmp 73) = .bool true := hF.2.2.2 18 73 _ rfl (hdep ⟨18, .guard⟩ (by simp) rfl)
      have da0 : ac.eval (.tmp 74) = .agg #[.bool x0, .int .i64 x1, .int .i64 x2, .int .i64 x3] := hF.2.2.2 19 74 _ rfl (hdep ⟨19, .data⟩ (by simp) rfl)
      have da1 : ac.eval (.tmp 75) = .agg #[.bool x0, .int .i64 x1, .int .i64 x2, .int .i64 x3] := hF.2.2.2 20 75 _ rfl (hdep ⟨20, .data⟩ (by simp) rfl)
      exact Ord.ex_value x rfl (Ord.wanted_of dg (by rw [f1]; decide) rfl rfl) (Rg.bin da0 da1 rfl (eq25 _ _ _ _ _ _ _)) rfl (hW.keep (by decide))
    | 22, ho, hi, hdep =>
      cases ho
      have da0 : ac.eval (.tmp 73) = .bool true := hF.2.2.2 18 73 _ rfl (hdep ⟨18, .data⟩ (by simp) rfl)
      have da1 : ac.eval (.tmp 76) = .bool true := hF.2.2.2 21 76 _ rfl (hdep ⟨21, .data⟩ (by simp) rfl)
      exact Ord.ex_value x rfl rfl (Rg.pick_t da0 da1 rfl) rfl (hW.keep (by decide))
    | 23, ho, hi, hdep =>
      cases ho
      have da0 : ac.eval (.tmp 77) = .bool true := hF.2.2.2 22 77 _ rfl (hdep ⟨22, .data⟩ (by simp) rfl)
      exact Ord.ex_value x rfl rfl (Rg.mv da0 rfl) rfl (hW.keep (by decide))
    | 24, ho, hi, hdep =>
      cases ho
      have dg : ac.eval (.tmp 78) = .bool true := hF.2.2.2 23 78 _ rfl (hdep ⟨23, .guard⟩ (by simp) rfl)
      have da0 : ac.eval (.tmp 16) = .int .i64 x4 := hF.old 16 rfl
      exact Ord.ex_value x rfl (Ord.wanted_of dg (by rw [f1]; decide) rfl rfl) (Rg.mv da0 rfl) rfl (hW.keep (by decide))
    | 25, ho, hi, hdep =>
      cases ho
      have dg : ac.eval (.tmp 78) = .bool true := hF.2.2.2 23 78 _ rfl (hdep ⟨23, .guard⟩ (by simp) rfl)
      have da0 : ac.eval (.tmp 18) = .int .i64 x4 := hF.old 18 rfl
      exact Ord.ex_value x rfl (Ord.wanted_of dg (by rw [f1]; decide) rfl rfl) (Rg.mv da0 rfl) rfl (hW.keep (by decide))
    | 26, ho, hi, hdep =>
      cases ho
      have dg : ac.eval (.tmp 78) = .bool true := hF.2.2.2 23 78 _ rfl (hdep ⟨23, .guard⟩ (by simp) rfl)
      have da0 : ac.eval (.tmp 79) = .int .i64 x4 := hF.2.2.2 24 79 _ rfl (hdep ⟨24, .data⟩ (by simp) rfl)
      have da1 : ac.eval (.tmp 80) = .int .i64 x4 := hF.2.2.2 25 80 _ rfl (hdep ⟨25, .data⟩ (by simp) rfl)
      exact Ord.ex_value x rfl (Ord.wanted_of dg (by rw [f1]; decide) rfl rfl) (Rg.bin da0 da1 rfl (by simp [go_sem])) rfl (hW.keep (by decide))
    | 27, ho, hi, hdep =>
      cases ho
      have da0 : ac.eval (.tmp 78) = .bool true := hF.2.2.2 23 78 _ rfl (hdep ⟨23, .data⟩ (by simp) rfl)
      have da1 : ac.eval (.tmp 81) = .bool true := hF.2.2.2 26 81 _ rfl (hdep ⟨26, .data⟩ (by simp) rfl)
      exact Ord.ex_value x rfl rfl (Rg.pick_t da0 da1 rfl) rfl (hW.keep (by decide))
    | 28, ho, hi, hdep =>
      cases ho
      have da0 : ac.eval (.tmp 82) = .bool true := hF.2.2.2 27 82 _ rfl (hdep ⟨27, .data⟩ (by simp) rfl)
      exact Ord.ex_value x rfl rfl (Rg.mv da0 rfl) rfl (hW.keep (by decide))
    | 29, ho, hi, hdep =>
      cases ho
      have dg : ac.eval (.tmp 83) = .bool true := hF.2.2.2 28 83 _ rfl (hdep ⟨28, .guard⟩ (by simp) rfl)
      have da0 : ac.eval (.tmp 3) = .pointer (some ⟨w.heap.size, 0, none⟩) := hF.old 3 rfl
      obtain ⟨kq, hlo, hhi, hA⟩ := hW.range 0 0 (.inl rfl) (.inr ⟨31, rfl, (Rg.no_of (fun h => hcl 31 _ rfl (h) ⟨29, .data⟩ (by simp) rfl) hi)⟩)
      obtain ⟨⟨c0, c1, c2⟩, _⟩ := tim3 hA (.tail _ (.tail _ (.tail _ (.tail _ (.tail _ (.tail _ (.tail _ (.head _))))))))
      exact Ord.ex_value x rfl (Ord.wanted_of dg (by rw [f1]; decide) rfl rfl) (Rg.load da0 rfl (by simp [go_sem, c0, c1, c2])) rfl (hW.keep (by decide))
    | 30, ho, hi, hdep =>
      cases ho
      have dg : ac.eval (.tmp 83) = .bool true := hF.2.2.2 28 83 _ rfl (hdep ⟨28, .guard⟩ (by simp) rfl)
      have da0 : ac.eval (.tmp 4) = .pointer (some ⟨w.heap.size + 1, 0, none⟩) := hF.old 4 rfl
      obtain ⟨kq, hlo, hhi, hA⟩ := hW.range 0 0 (.inl rfl) (.inr ⟨31, rfl, (Rg.no_of (fun h => hcl 31 _ rfl (h) ⟨30, .data⟩ (by simp) rfl) hi)⟩)
      obtain ⟨⟨c0, c1, c2, c3⟩, _⟩ := ans hA (.tail _ (.tail _ (.tail _ (.tail _ (.tail _ (.tail _ (.head _)))))))
      exact Ord.ex_value x rfl (Ord.wanted_of dg (by rw [f1]; decide) rfl rfl) (Rg.load da0 rfl (by simp [go_sem, c0, c1, c2, c3])) rfl (hW.keep (by decide))
    | 31, ho, hi, hdep =>
      cases ho
      have dg : ac.eval (.tmp 83) = .bool true := hF.2.2.2 28 83 _ rfl (hdep ⟨28, .guard⟩ (by simp) rfl)
      have da0 : ac.eval (.tmp 84) = .agg #[.int .i64 i, .int .i64 mi, .int .i64 ma] := hF.2.2.2 29 84 _ rfl (hdep ⟨29, .data⟩ (by simp) rfl)
      have da1 : ac.eval (.tmp 85) = .agg #[.bool k, .int .i64 s, .int .i64 v, .int .i64 t] := hF.2.2.2 30 85 _ rfl (hdep ⟨30, .data⟩ (by simp) rfl)
      have hA := hW.at (k := 0) rfl hi (.inl rfl)
      refine Rg.ex_call x rfl (Ord.wanted_of dg (by rw [f1]; decide) rfl rfl) (Rg.enter (args := #[.agg #[.int .i64 i, .int .i64 mi, .int .i64 ma], .agg #[.bool k, .int .i64 s, .int .i64 v, .int .i64 t]]) rfl rfl (by simp [da0, da1]) ECX.out) (Calls.mono (CX.out _) ?_)
      rintro e w2 ⟨rfl, hB⟩
      exact ⟨rfl, hW.next (k := 0) rfl (by decide) hi (.inl rfl) (hA.later hB)⟩
    | 32, ho, hi, hdep =>
      cases ho
      have dg : ac.eval (.tmp 83) = .bool true := hF.2.2.2 28 83 _ rfl (hdep ⟨28, .guard⟩ (by simp) rfl)
      have da0 : ac.eval (.tmp 3) = .pointer (some ⟨w.heap.size, 0, none⟩) := hF.old 3 rfl
      obtain ⟨kq, hlo, hhi, hA⟩ := hW.range 0 1 (.inl rfl) (.inr ⟨34, rfl, (Rg.no_of (fun h => hcl 34 _ rfl (h) ⟨32, .data⟩ (by simp) rfl) hi)⟩)
      obtain ⟨⟨c0, c1, c2⟩, _⟩ := tim3 hA (.tail _ (.tail _ (.tail _ (.tail _ (.tail _ (.tail _ (.tail _ (.head _))))))))
      exact Ord.ex_value x rfl (Ord.wanted_of dg (by rw [f1]; decide) rfl rfl) (Rg.load da0 rfl (by simp [go_sem, c0, c1, c2])) rfl (hW.keep (by decide))
    | 33, ho, hi, hdep =>
      cases ho
      have dg : ac.eval (.tmp 83) = .bool true := hF.2.2.2 28 83 _ rfl (hdep ⟨28, .guard⟩ (by simp) rfl)
      have da0 : ac.eval (.tmp 4) = .pointer (some ⟨w.heap.size + 1, 0, none⟩) := hF.old 4 rfl
      obtain ⟨kq, hlo, hhi, hA⟩ := hW.range 0 1 (.inl rfl) (.inr ⟨34, rfl, (Rg.no_of (fun h => hcl 34 _ rfl (h) ⟨33, .data⟩ (by simp) rfl) hi)⟩)
      obtain ⟨⟨c0, c1, c2, c3⟩, _⟩ := ans hA (.tail _ (.tail _ (.tail _ (.tail _ (.tail _ (.tail _ (.head _)))))))
      exact Ord.ex_value x rfl (Ord.wanted_of dg (by rw [f1]; decide) rfl rfl) (Rg.load da0 rfl (by simp [go_sem, c0, c1, c2, c3])) rfl (hW.keep (by decide))
    | 34, ho, hi, hdep =>
      cases ho
      have dg : ac.eval (.tmp 83) = .bool true := hF.2.2.2 28 83 _ rfl (hdep ⟨28, .guard⟩ (by simp) rfl)
      have da0 : ac.eval (.tmp 87) = .agg #[.int .i64 i, .int .i64 mi, .int .i64 ma] := hF.2.2.2 32 87 _ rfl (hdep ⟨32, .data⟩ (by simp) rfl)
      have da1 : ac.eval (.tmp 88) = .agg #[.bool k, .int .i64 s, .int .i64 v, .int .i64 t] := hF.2.2.2 33 88 _ rfl (hdep ⟨33, .data⟩ (by simp) rfl)
      have hA := hW.at (k := 1) rfl hi (.inr ⟨31, rfl, (hdep ⟨31, .chain⟩ (by simp) rfl)⟩)
      refine Rg.ex_call x rfl (Ord.wanted_of dg (by rw [f1]; decide) rfl rfl) (Rg.enter (args := #[.agg #[.int .i64 i, .int .i64 mi, .int .i64 ma], .agg #[.bool k, .int .i64 s, .int .i64 v, .int .i64 t]]) rfl rfl (by simp [da0, da1]) ERC.out) (Calls.mono (RC.out _) ?_)
      rintro e w2 ⟨rfl, hB⟩
      exact ⟨rfl, hW.next (k := 1) rfl (by decide) hi (.inr ⟨31, rfl, (hdep ⟨31, .chain⟩ (by simp) rfl)⟩) (hA.later hB)⟩
    | 35, ho, hi, hdep =>
      cases ho
      have dg : ac.eval (.tmp 83) = .bool true := hF.2.2.2 28 83 _ rfl (hdep ⟨28, .guard⟩ (by simp) rfl)
      have da0 : ac.eval (.tmp 86) = .int .i64 c := hF.2.2.2 31 86 _ rfl (hdep ⟨31, .data⟩ (by simp) rfl)
      have da1 : ac.eval (.tmp 89) = .int .i64 c := hF.2.2.2 34 89 _ rfl (hdep ⟨34, .data⟩ (by simp) rfl)
      exact Ord.ex_value x rfl (Ord.wanted_of dg (by rw [f1]; decide) rfl rfl) (Rg.bin da0 da1 rfl (by simp [go_sem])) rfl (hW.keep (by decide))
    | 36, ho, hi, hdep =>
      cases ho
      have da0 : ac.eval (.tmp 83) = .bool true := hF.2.2.2 28 83 _ rfl (hdep ⟨28, .data⟩ (by simp) rfl)
      have da1 : ac.eval (.tmp 90) = .bool true := hF.2.2.2 35 90 _ rfl (hdep ⟨35, .data⟩ (by simp) rfl)
      exact Ord.ex_value x rfl rfl (Rg.pick_t da0 da1 rfl) rfl (hW.keep (by decide))
    | 37, ho, hi, hdep =>
      cases ho
      have da0 : ac.eval (.tmp 91) = .bool true := hF.2.2.2 36 91 _ rfl (hdep ⟨36, .data⟩ (by simp) rfl)
      exact Ord.ex_value x rfl rfl (Rg.mv da0 rfl) rfl (hW.keep (by decide))
    | 38, ho, hi, hdep =>
      cases ho
      have dg : ac.eval (.tmp 92) = .bool true := hF.2.2.2 37 92 _ rfl (hdep ⟨37, .guard⟩ (by simp) rfl)
      have da0 : ac.eval (.tmp 4) = .pointer (some ⟨w.heap.size + 1, 0, none⟩) := hF.old 4 rfl
      obtain ⟨kq, hlo, hhi, hA⟩ := hW.range 2 2 (.inr ⟨34, rfl, (hcl 37 _ rfl (hdep ⟨37, .guard⟩ (by simp) rfl) ⟨34, .chain⟩ (by simp) rfl)⟩) (.inr ⟨39, rfl, (Rg.no_of (fun h => hcl 39 _ rfl (h) ⟨38, .data⟩ (by simp) rfl) hi)⟩)
      obtain ⟨⟨c0, c1, c2, c3⟩, _⟩ := ans hA (.tail _ (.tail _ (.tail _ (.tail _ (.tail _ (.tail _ (.head _)))))))
      exact Ord.ex_value x rfl (Ord.wanted_of dg (by rw [f1]; decide) rfl rfl) (Rg.load da0 rfl (by simp [go_sem, c0, c1, c2, c3])) rfl (hW.keep (by decide))
    | 39, ho, hi, hdep =>
      cases ho
      have dg : ac.eval (.tmp 92) = .bool true := hF.2.2.2 37 92 _ rfl (hdep ⟨37, .guard⟩ (by simp) rfl)
      have da0 : ac.eval (.tmp 93) = .agg #[.bool k, .int .i64 s, .int .i64 v, .int .i64 t] := hF.2.2.2 38 93 _ rfl (hdep ⟨38, .data⟩ (by simp) rfl)
      have hA := hW.at (k := 2) rfl hi (.inr ⟨34, rfl, (hcl 37 _ rfl (hdep ⟨37, .chain⟩ (by simp) rfl) ⟨34, .chain⟩ (by simp) rfl)⟩)
      refine Rg.ex_call x rfl (Ord.wanted_of dg (by rw [f1]; decide) rfl rfl) (Rg.enter (args := #[.agg #[.bool k, .int .i64 s, .int .i64 v, .int .i64 t]]) rfl rfl (by simp [da0]) ETX.out) (Calls.mono (TX.out _) ?_)
      rintro e w2 ⟨rfl, hB⟩
      exact ⟨rfl, hW.next (k := 2) rfl (by decide) hi (.inr ⟨34, rfl, (hcl 37 _ rfl (hdep ⟨37, .chain⟩ (by simp) rfl) ⟨34, .chain⟩ (by simp) rfl)⟩) (hA.later hB)⟩
    | 40, ho, hi, hdep =>
      cases ho
      have dg : ac.eval (.tmp 92) = .bool true := hF.2.2.2 37 92 _ rfl (hdep ⟨37, .guard⟩ (by simp) rfl)
      have da0 : ac.eval (.tmp 4) = .pointer (some ⟨w.heap.size + 1, 0, none⟩) := hF.old 4 rfl
      obtain ⟨kq, hlo, hhi, hA⟩ := hW.range 2 3 (.inr ⟨34, rfl, (hcl 37 _ rfl (hdep ⟨37, .guard⟩ (by simp) rfl) ⟨34, .chain⟩ (by simp) rfl)⟩) (.inr ⟨41, rfl, (Rg.no_of (fun h => hcl 41 _ rfl (h) ⟨40, .data⟩ (by simp) rfl) hi)⟩)
      obtain ⟨⟨c0, c1, c2, c3⟩, _⟩ := ans hA (.tail _ (.tail _ (.tail _ (.tail _ (.tail _ (.tail _ (.head _)))))))
      exact Ord.ex_value x rfl (Ord.wanted_of dg (by rw [f1]; decide) rfl rfl) (Rg.load da0 rfl (by simp [go_sem, c0, c1, c2, c3])) rfl (hW.keep (by decide))
    | 41, ho, hi, hdep =>
      cases ho
      have dg : ac.eval (.tmp 92) = .bool true := hF.2.2.2 37 92 _ rfl (hdep ⟨37, .guard⟩ (by simp) rfl)
      have da0 : ac.eval (.tmp 95) = .agg #[.bool k, .int .i64 s, .int .i64 v, .int .i64 t] := hF.2.2.2 40 95 _ rfl (hdep ⟨40, .data⟩ (by simp) rfl)
      have hA := hW.at (k := 3) rfl hi (.inr ⟨39, rfl, (hdep ⟨39, .chain⟩ (by simp) rfl)⟩)
      refine Rg.ex_call x rfl (Ord.wanted_of dg (by rw [f1]; decide) rfl rfl) (Rg.enter (args := #[.agg #[.bool k, .int .i64 s, .int .i64 v, .int .i64 t]]) rfl rfl (by simp [da0]) ERT.out) (Calls.mono (RT.out _) ?_)
      rintro e w2 ⟨rfl, hB⟩
      exact ⟨rfl, hW.next (k := 3) rfl (by decide) hi (.inr ⟨39, rfl, (hdep ⟨39, .chain⟩ (by simp) rfl)⟩) (hA.later hB)⟩
    | 42, ho, hi, hdep =>
      cases ho
      have dg : ac.eval (.tmp 92) = .bool true := hF.2.2.2 37 92 _ rfl (hdep ⟨37, .guard⟩ (by simp) rfl)
      have da0 : ac.eval (.tmp 94) = .int .i64 q := hF.2.2.2 39 94 _ rfl (hdep ⟨39, .data⟩ (by simp) rfl)
      have da1 : ac.eval (.tmp 96) = .int .i64 q := hF.2.2.2 41 96 _ rfl (hdep ⟨41, .data⟩ (by simp) rfl)
      exact Ord.ex_value x rfl (Ord.wanted_of dg (by rw [f1]; decide) rfl rfl) (Rg.bin da0 da1 rfl (by simp [go_sem])) rfl (hW.keep (by decide))
    | 43, ho, hi, hdep =>
      cases ho
      have da0 : ac.eval (.tmp 92) = .bool true := hF.2.2.2 37 92 _ rfl (hdep ⟨37, .data⟩ (by simp) rfl)
      have da1 : ac.eval (.tmp 97) = .bool true := hF.2.2.2 42 97 _ rfl (hdep ⟨42, .data⟩ (by simp) rfl)
      exact Ord.ex_value x rfl rfl (Rg.pick_t da0 da1 rfl) rfl (hW.keep (by decide))
    | 44, ho, hi, hdep =>
      cases ho
      have da0 : ac.eval (.tmp 98) = .bool true := hF.2.2.2 43 98 _ rfl (hdep ⟨43, .data⟩ (by simp) rfl)
      exact Ord.ex_value x rfl rfl (Rg.mv da0 rfl) rfl (hW.keep (by decide))
    | 45, ho, hi, hdep =>
      cases ho
      have dg : ac.eval (.tmp 99) = .bool true := hF.2.2.2 44 99 _ rfl (hdep ⟨44, .guard⟩ (by simp) rfl)
      have hA := hW.at (k := 4) rfl hi (.inr ⟨41, rfl, (hcl 44 _ rfl (hdep ⟨44, .chain⟩ (by simp) rfl) ⟨41, .chain⟩ (by simp) rfl)⟩)
      refine Rg.ex_call x rfl (Ord.wanted_of dg (by rw [f1]; decide) rfl rfl) (Rg.enter (args := #[]) rfl rfl (by simp) EAW.out) (Calls.mono (AW.out _) ?_)
      rintro e w2 ⟨rfl, hB⟩
      exact ⟨rfl, hW.next (k := 4) rfl (by decide) hi (.inr ⟨41, rfl, (hcl 44 _ rfl (hdep ⟨44, .chain⟩ (by simp) rfl) ⟨41, .chain⟩ (by simp) rfl)⟩) (hA.later hB)⟩
    | 46, ho, hi, hdep =>
      cases ho
      have da0 : ac.eval (.tmp 99) = .bool true := hF.2.2.2 44 99 _ rfl (hdep ⟨44, .data⟩ (by simp) rfl)
      have da1 : ac.eval (.tmp 100) = .bool true := hF.2.2.2 45 100 _ rfl (hdep ⟨45, .data⟩ (by simp) rfl)
      exact Ord.ex_value x rfl rfl (Rg.pick_t da0 da1 rfl) rfl (hW.keep (by decide))
    | 47, ho, hi, hdep =>
      cases ho
      have da0 : ac.eval (.tmp 101) = .bool true := hF.2.2.2 46 101 _ rfl (hdep ⟨46, .data⟩ (by simp) rfl)
      exact Ord.ex_value x rfl rfl (Rg.asg da0 rfl) rfl (hW.keep (by decide))
  case refine_2 =>
    intro x w' hW
    have HB := hidden (hW.last).below
    clear hW
    simp only [Ord.puts, Ord.prs]
    go_simp
    go_wp2
    go_ret
    exact ⟨rfl, HB.out⟩
  case refine_3 => exact Rg.StM.first (O6.out.drew)

theorem contract (H : Type) (enc : TypeId × Value → H) (W : World) (base : Nat) (args : Array Value) (ds gs : List (DataW H)) (before : List MemPlace)
    (hval : ∀ (j : Nat) t v, Try.f3.params[j]? = some t → args[j]? = some v → Value.okWide Try.prog W .any base t v)
    (hW : DataW.Whole enc Try.prog Try.f3.params.toList Rows.rtoStepsSpec.vars false W args.toList ds gs before)
    (hsz0 : (DataW.weightsEach Try.prog (Try.f3.params.toList ++ Rows.rtoStepsSpec.plain.varTypes Try.prog) (ds ++ gs)).all (· ≤ reachBytes) = true) :
    Calls Try.prog 3 args W fun e W' => ∃ v, e = .returned v ∧ Rows.rtoStepsSpec.post enc Try.prog Try.f3 false true false false W args v W' := by
  have hW' := hW
  obtain ⟨p, q, hA0, hV, rfl, hfz, hnd⟩ := hW
  have hA : DataW.TrodAll enc Try.prog W 0 (fun _ => true) true Try.f3.params.toList args.toList ds p := hA0
  have hsz := hsz0
  rw [Try.params3] at hA hval hsz
  obtain ⟨v0, vs0, d0, ds0, p0, q0, hargs, rfl, rfl, h0, r0⟩ := trodAll_cons hA
  obtain ⟨v1, vs1, d1, ds1, p1, q1, rfl, rfl, rfl, h1, r1⟩ := trodAll_cons r0
  obtain ⟨v2, vs2, d2, ds2, p2, q2, rfl, rfl, rfl, h2, r2⟩ := trodAll_cons r1
  obtain ⟨rfl, rfl, rfl⟩ := trodAll_nil r2
  obtain rfl : args = #[v0, v1, v2] := by cases args; simp_all
  obtain ⟨rfl, rfl⟩ := trodVars_none hV
  have k0 := h0
  have lt0 : ∀ x ∈ p0, x.block < W.heap.size := by obtain ⟨m, hm⟩ := k0; exact DataW.trod_lt m _ _ _ hm
  have sz0 : (d0.weights Try.prog 23).all (· ≤ reachBytes) = true := List.all_eq_true.2 fun m hm => List.all_eq_true.1 hsz m (DataW.weights_mem_each (j := 0) rfl rfl m hm)
  obtain ⟨q0, rfl, w0⟩ : ∃ q, v0 = .agg ((fun q : Int × Int × Int => [.int .i64 q.1, .int .i64 q.2.1, .int .i64 q.2.2]) q).toArray ∧ (fun q => (Lit.int .i64 q.1).wf = true ∧ (Lit.int .i64 q.2.1).wf = true ∧ (Lit.int .i64 q.2.2).wf = true) q := by
    obtain ⟨fuel, hf⟩ := h0
    exact Ag.one_arg kd23 Try.underlying23 (hval 0 23 v0 rfl rfl) hf sz0
  have k1 := h1
  have lt1 : ∀ x ∈ p1, x.block < W.heap.size := by obtain ⟨m, hm⟩ := k1; exact DataW.trod_lt m _ _ _ hm
  have sz1 : (d1.weights Try.prog 25).all (· ≤ reachBytes) = true := List.all_eq_true.2 fun m hm => List.all_eq_true.1 hsz m (DataW.weights_mem_each (j := 1) rfl rfl m hm)
  obtain ⟨q1, rfl, w1⟩ : ∃ q, v1 = .agg ((fun q : Bool × Int × Int × Int => [.bool q.1, .int .i64 q.2.1, .int .i64 q.2.2.1, .int .i64 q.2.2.2]) q).toArray ∧ (fun q => (Lit.int .i64 q.2.1).wf = true ∧ (Lit.int .i64 q.2.2.1).wf = true ∧ (Lit.int .i64 q.2.2.2).wf = true) q := by
    obtain ⟨fuel, hf⟩ := h1
    exact Ag.one_arg kd25 Try.underlying25 (hval 1 25 v1 rfl rfl) hf sz1
  obtain ⟨a2, rfl, rfl, rfl, w2⟩ := open_int Try.underlying3 (hval 2 3 v2 rfl rfl) h2
  clear hA0 hsz0 hsz
  refine (walk q0 q1 a2 W w0 w1 w2).mono fun e W' ⟨he, bel⟩ => ?_
  subst he
  exact ⟨_, rfl, _, _, _, [], _, [], hW', trodAll_mk1 (shut_bool Try.underlying4 _), (trodAll_cons_mk (Below.trod laidOut (by kernel_rfl) (of_decide_eq_true (by kernel_rfl)) k0 bel lt0) (trodAll_cons_mk (Below.trod laidOut (by kernel_rfl) (of_decide_eq_true (by kernel_rfl)) k1 bel lt1) (trodAll_cons_mk (shut_int Try.underlying3 w2) trodAll_mk0))), rfl, bel.frame _, fun h => by cases h⟩

noncomputable def laidWorld (os : Os) : World :=
  World.holding Try.prog os ⟨#[], #[], []⟩
theorem laid_met (os : Os) : laidMet Try.prog Rows.rtoStepsRow.laid ((laidWorld os).forCall (fun _ _ => 0) ⟨#[], #[.agg #[.int .i64 0, .int .i64 0, .int .i64 0], .agg #[.bool false, .int .i64 0, .int .i64 0, .int .i64 0], .int .i64 0], []⟩).memory :=
  laidMet_of_run' 8 (by kernel_rfl) (by kernel_rfl)
theorem reads (os : Os) {H : Type} (enc : TypeId × Value → H) : ∃ places, DataW.whole enc Try.prog ((laidWorld os).forCall (fun _ _ => 0) ⟨#[], #[.agg #[.int .i64 0, .int .i64 0, .int .i64 0], .agg #[.bool false, .int .i64 0, .int .i64 0, .int .i64 0], .int .i64 0], []⟩).memory Try.f3.params.toList Rows.rtoStepsSpec.vars false #[Value.agg #[.int .i64 0, .int .i64 0, .int .i64 0], Value.agg #[.bool false, .int .i64 0, .int .i64 0, .int .i64 0], Value.int .i64 0].toList 8 = some ([.agg [.lit (.int .i64 0), .lit (.int .i64 0), .lit (.int .i64 0)], .agg [.lit (.bool false), .lit (.int .i64 0), .lit (.int .i64 0), .lit (.int .i64 0)], .lit (.int .i64 0)], [], places) :=
  ⟨[], by kernel_rfl⟩

set_option maxRecDepth 100000 in
theorem lifted (os : Os) (started : os.Started) (H : Type) (enc : TypeId × Value → H) (F : Stop.Interp) :
    ReturnsInHanded {} Try.checked os 3 .any ((OpenSpec.ofChange Rows.rtoStepsSpec).preRow enc Try.prog Try.f3 Rows.rtoStepsRow.domain false Rows.rtoStepsRow.laid) (((OpenSpec.ofChange Rows.rtoStepsSpec).at F).post enc Try.prog Try.f3 false true false false) := by
  obtain ⟨places, hx⟩ := reads os enc
  refine returnsInHanded_of_row (C := Try.checked) (s := OpenSpec.ofChange Rows.rtoStepsSpec) own started (by kernel_rfl) Try.func3
    (witness_row_at (enc := enc) (C := Try.checked) false (laidWorld os) #[.agg #[.int .i64 0, .int .i64 0, .int .i64 0], .agg #[.bool false, .int .i64 0, .int .i64 0, .int .i64 0], .int .i64 0] rfl (by kernel_rfl) (by kernel_rfl) (by kernel_rfl)
      (OpenSpec.preRow_of_cond 8 hx (by kernel_rfl) (fun k hk => by cases hk) (by kernel_rfl) (laid_met os))) ?_
  intro W base args ds gs before hval hW _ hcond hsz hL _ _
  exact contract H enc W base args ds gs before hval hW hsz

theorem said : Rows.RtoStepsSaid :=
  OpenClaim.holds_of_cond 3 Try.f3 rfl rfl rfl rfl rfl rfl rfl ⟨rfl, rfl, rfl, rfl, rfl⟩ rfl rfl rfl rfl rfl (by kernel_rfl) Try.func3 (by kernel_rfl)
    (of_decide_eq_true (by kernel_rfl)) (by unfold Func.isWrapper; first | (rw [if_pos (by decide +kernel)]; kernel_rfl) | (rw [if_neg (by decide +kernel)]; exact ⟨rfl, rfl⟩))
    (fun os started H enc _ F => by rw [OpenClaim.pre_eq_preRow]; exact lifted os started H enc F)

/-- THE STATEMENT -/
theorem proved : Rows.RtoStepsSaid := said
#print axioms proved
end Go.Proofs.Ythfhcepfomghoaa.rtoSteps
