/-
  What CwndOpens says of every call is true: first windows, which windows may be and what is left of them are as the document says (P12.1, P12.5). Conditions: none.
-/
import Derived.Test.YtaaghlgleofcgaaRows
import Derived.WalkKit
import Derived.ProofKit
import Derived.OpenShut
import Derived.ShutString
import Derived.ChangeOld
import Derived.Below
import Derived.SizedLaws
import Derived.Deep.DeepHandedRow
import Derived.LaidLaws
import Derived.ChangeMaps5
import Derived.Test.YtaaghlgleofcgaaCwH
import Derived.Test.YtaaghlgleofcgaaAg
namespace Go.Proofs.Ytaaghlgleofcgaa.cwndOpens
open Go.ChangeShapes Go.WideShapes Go.ChangeAt Go.RowKit
open Go.ChangeMaps (open_string shut_string)
set_option linter.unusedVariables false

theorem own : ownKnob Try.prog.godebug = none := by kernel_rfl
theorem laidOut : laidOutB Try.prog = true := by kernel_rfl

theorem kd23 : Ag.Kind Try.prog 23 5 (fun q : Int × Int × Int × Int × Int => [.int .i64 q.1, .int .i64 q.2.1, .int .i64 q.2.2.1, .int .i64 q.2.2.2.1, .int .i64 q.2.2.2.2]) (fun q => (Lit.int .i64 q.1).wf = true ∧ (Lit.int .i64 q.2.1).wf = true ∧ (Lit.int .i64 q.2.2.1).wf = true ∧ (Lit.int .i64 q.2.2.2.1).wf = true ∧ (Lit.int .i64 q.2.2.2.2).wf = true) := by
  refine ⟨by kernel_rfl, by decide, fun _ => rfl, fun {H enc W base held fuel cl x} h _ => ?_⟩
  obtain ⟨xs, n, _, _, hcl, hxl, hfield⟩ := DataW.trod_struct Try.underlying23 h
  rw [show Try.prog.cellsOf 23 = 5 by kernel_rfl] at hcl
  match cl, hcl with
  | [v0, v1, v2, v3, v4], _ =>
    match xs, hxl with
    | [y0, y1, y2, y3, y4], _ =>
      have g0 := hfield 0 _ rfl
      simp [show Try.prog.cellsOf 3 = 1 by kernel_rfl] at g0
      obtain ⟨n0, e0, _, w0⟩ := DataW.trod_int Try.underlying3 g0
      simp at e0
      subst e0
      have g1 := hfield 1 _ rfl
      simp [show Try.prog.cellsOf 3 = 1 by kernel_rfl] at g1
      obtain ⟨n1, e1, _, w1⟩ := DataW.trod_int Try.underlying3 g1
      simp at e1
      subst e1
      have g2 := hfield 2 _ rfl
      simp [show Try.prog.cellsOf 3 = 1 by kernel_rfl] at g2
      obtain ⟨n2, e2, _, w2⟩ := DataW.trod_int Try.underlying3 g2
      simp at e2
      subst e2
      have g3 := hfield 3 _ rfl
      simp [show Try.prog.cellsOf 3 = 1 by kernel_rfl] at g3
      obtain ⟨n3, e3, _, w3⟩ := DataW.trod_int Try.underlying3 g3
      simp at e3
      subst e3
      have g4 := hfield 4 _ rfl
      simp [show Try.prog.cellsOf 3 = 1 by kernel_rfl] at g4
      obtain ⟨n4, e4, _, w4⟩ := DataW.trod_int Try.underlying3 g4
      simp at e4
      subst e4
      exact ⟨(n0, n1, n2, n3, n4), rfl, w0, w1, w2, w3, w4⟩
open Ba (hidden Has)
open Ow (Own)
open Cw
theorem eqW (x y : Operand) (c s p m k : Int) (w : World) : (do eqGuard .eql 23 x y (.agg #[.int .i64 c, .int .i64 s, .int .i64 p, .int .i64 m, .int .i64 k]) (.agg #[.int .i64 c, .int .i64 s, .int .i64 p, .int .i64 m, .int .i64 k]); binOp .eql 23 (.agg #[.int .i64 c, .int .i64 s, .int .i64 p, .int .i64 m, .int .i64 k]) (.agg #[.int .i64 c, .int .i64 s, .int .i64 p, .int .i64 m, .int .i64 k]) : Sem Value).run Try.prog w = .ok (.bool true) w := by
  simp [go_sem]
set_option maxRecDepth 100000 in
set_option maxHeartbeats 4000000 in

theorem walk (a0 : Int) (a1 : Int) (a2 : Int) (q3 : Int × Int × Int × Int × Int) (a4 : Int) (w : World) (w0 : (Lit.int .i64 a0).wf = true) (w1 : (Lit.int .i64 a1).wf = true) (w2 : (Lit.int .i64 a2).wf = true) (w3 : (fun q => (Lit.int .i64 q.1).wf = true ∧ (Lit.int .i64 q.2.1).wf = true ∧ (Lit.int .i64 q.2.2.1).wf = true ∧ (Lit.int .i64 q.2.2.2.1).wf = true ∧ (Lit.int .i64 q.2.2.2.2).wf = true) q3) (w4 : (Lit.int .i64 a4).wf = true) :
    Calls Try.prog 5 #[.int .i64 a0, .int .i64 a1, .int .i64 a2, .agg ((fun q : Int × Int × Int × Int × Int => [.int .i64 q.1, .int .i64 q.2.1, .int .i64 q.2.2.1, .int .i64 q.2.2.2.1, .int .i64 q.2.2.2.2]) q3).toArray, .int .i64 a4] w fun e w' => e = .returned (.bool true) ∧ Below w.heap.size w w' := by
  obtain ⟨c, s, p, m, k⟩ := q3
  have A := hidden (openX a0 a1 a2)
  have B := hidden (rOpen a0 a1 a2)
  have CX := hidden (checkX c s p m k)
  have RC := hidden (rCheck c s p m k)
  have SX := hidden (spaceX c s p m k (of_wf64 w4))
  have RS := hidden (rSpace c s p m k (of_wf64 w4))
  have AW := hidden Cw.awake
  have O := hidden (ow1 w c s p m k)
  generalize chk c s p m k = y at CX RC
  generalize spV c s p m k a4 = z at SX RS
  clear w0 w1 w2 w3 w4
  have ECX : Hid (∀ (args : Array Value) (w : World), (callFunc 22 args).run Try.prog w = .ok (.enter 22 args) w) := enters_of Try.func22 (by kernel_rfl) rfl
  have ERC : Hid (∀ (args : Array Value) (w : World), (callFunc 23 args).run Try.prog w = .ok (.enter 23 args) w) := enters_of Try.func23 (by kernel_rfl) rfl
  have ESX : Hid (∀ (args : Array Value) (w : World), (callFunc 24 args).run Try.prog w = .ok (.enter 24 args) w) := enters_of Try.func24 (by kernel_rfl) rfl
  have ERS : Hid (∀ (args : Array Value) (w : World), (callFunc 25 args).run Try.prog w = .ok (.enter 25 args) w) := enters_of Try.func25 (by kernel_rfl) rfl
  have EAW : Hid (∀ (args : Array Value) (w : World), (callFunc 12 args).run Try.prog w = .ok (.enter 12 args) w) := enters_of Try.func12 (by kernel_rfl) rfl
  by_cases hb : bndP a0 a1
  · obtain ⟨x0, x1, x2, x3, x4, e, hm⟩ : ∃ x0 x1 x2 x3 x4, opV a0 a1 a2 = ((x0, x1, x2, x3, x4), 0) ∧ mayP x0 x1 x2 x3 x4 := ⟨_, _, _, _, _, by unfold opV; rw [if_pos hb], opV_may hb⟩
    have RM := hidden (rMay_ok hm)
    have ERM : Hid (∀ (args : Array Value) (w : World), (callFunc 21 args).run Try.prog w = .ok (.enter 21 args) w) := enters_of Try.func21 (by kernel_rfl) rfl
    rw [e] at A B
    clear hm e hb
    unfold tr tv at A B
    simp only at A B
    go_enter Try.func5, Try.ntmps5
    go_wp2_with fail
    refine Calls.mono (A.out _) ?_
    rintro e w1 ⟨rfl, hB⟩
    have O1 := hidden ((O.out.later hB).alloc #[.int .i64 x0, .int .i64 x1, .int .i64 x2, .int .i64 x3, .int .i64 x4] 23)
    clear hB O A
    go_wp2_with fail
    refine Calls.mono (B.out _) ?_
    rintro e w2 ⟨rfl, hB⟩
    have O2 := hidden ((O1.out.later hB).alloc #[.int .i64 x0, .int .i64 x1, .int .i64 x2, .int .i64 x3, .int .i64 x4] 23)
    clear hB O1 B
    go_upto_region 3 with fail
    refine Ord.wp_region_ex0 (X := Unit) (by kernel_rfl) 64 (fun x => [(some 29, .agg #[.int .i64 x0, .int .i64 x1, .int .i64 x2, .int .i64 x3, .int .i64 x4]), (some 30, .agg #[.int .i64 x0, .int .i64 x1, .int .i64 x2, .int .i64 x3, .int .i64 x4]), (some 31, .bool true), (some 32, .bool true), (some 33, .int .i64 0), (some 34, .int .i64 0), (some 35, .bool true), (some 36, .bool true), (some 37, .bool true), (some 38, .int .i64 0), (some 39, .bool false), (some 40, .bool false), (some 41, .agg #[.int .i64 x0, .int .i64 x1, .int .i64 x2, .int .i64 x3, .int .i64 x4]), (some 42, .bool true), (some 43, .bool true), (some 44, .bool true), (some 45, .bool true), (some 46, .agg #[.int .i64 c, .int .i64 s, .int .i64 p, .int .i64 m, .int .i64 k]), (some 47, .int .i64 y), (some 48, .agg #[.int .i64 c, .int .i64 s, .int .i64 p, .int .i64 m, .int .i64 k]), (some 49, .int .i64 y), (some 50, .bool true), (some 51, .bool true), (some 52, .bool true), (some 53, .agg #[.int .i64 c, .int .i64 s, .int .i64 p, .int .i64 m, .int .i64 k]), (some 54, .int .i64 a4), (some 55, .int .i64 z), (some 56, .agg #[.int .i64 c, .int .i64 s, .int .i64 p, .int .i64 m, .int .i64 k]), (some 57, .int .i64 a4), (some 58, .int .i64 z), (some 59, .bool true), (some 60, .bool true), (some 61, .bool true), (some 62, .bool true), (some 63, .bool true), (some 10, .bool true)]) [some 29, some 30, some 31, some 32, some 33, some 34, some 35, some 36, some 37, some 38, some 39, some 40, some 41, some 42, some 43, some 44, some 45, some 46, some 47, some 48, some 49, some 50, some 51, some 52, some 53, some 54, some 55, some 56, some 57, some 58, some 59, some 60, some 61, some 62, some 63, some 10] rfl (fun listed hsz hr => Ord.all_listedC (rank := [0, 1, 2, 3, 4, 5, 6, 7, 8, 9, 10, 11, 12, 13, 14, 15, 16, 17, 18, 19, 20, 21, 22, 23, 24, 25, 26, 27, 28, 29, 30, 31, 32, 33, 34, 35]) (by kernel_rfl) hsz hr) (by rfl) (fun _ => rfl) (by kernel_rfl) (Rg.StM [13, 18, 20, 26, 29, 33] (fun _ _ w' => Own w w' [(w2.heap.size, #[.int .i64 x0, .int .i64 x1, .int .i64 x2, .int .i64 x3, .int .i64 x4], 23), (w1.heap.size, #[.int .i64 x0, .int .i64 x1, .int .i64 x2, .int .i64 x3, .int .i64 x4], 23), (w.heap.size, #[.int .i64 c, .int .i64 s, .int .i64 p, .int .i64 m, .int .i64 k], 23)])) (fun _ _ _ _ hL h => h.ext (n := 36) (by decide) hL) ?_ ?_ () ?_
    case refine_1 =>
      intro x Lq iq oq ac w' ho hi hcl hdep hF hW
      have f1 : ac.tmps.size = 64 := hF.1
      match iq, ho, hi, hdep with
      | 0, ho, hi, hdep =>
        cases ho
        have da0 : ac.eval (.tmp 11) = .pointer (some ⟨w1.heap.size, 0, none⟩) := hF.old 11 rfl
        obtain ⟨kq, hlo, hhi, hA⟩ := hW.range 0 0 (.inl rfl) (.inr ⟨13, rfl, (Rg.no_of (fun h => hcl 2 _ rfl (hcl 3 _ rfl (hcl 8 _ rfl (hcl 11 _ rfl (hcl 13 _ rfl (h) ⟨11, .chain⟩ (by simp) rfl) ⟨8, .chain⟩ (by simp) rfl) ⟨3, .chain⟩ (by simp) rfl) ⟨2, .data⟩ (by simp) rfl) ⟨0, .data⟩ (by simp) rfl) hi)⟩)
        obtain ⟨c0, c1, c2, c3, c4⟩ := cells5 hA (b := w1.heap.size) (.tail _ (.head _))
        exact Ord.ex_value x rfl rfl (Rg.load da0 rfl (by simp [go_sem, c0, c1, c2, c3, c4])) rfl (hW.keep (by decide))
      | 1, ho, hi, hdep =>
        cases ho
        have da0 : ac.eval (.tmp 13) = .pointer (some ⟨w2.heap.size, 0, none⟩) := hF.old 13 rfl
        obtain ⟨kq, hlo, hhi, hA⟩ := hW.range 0 0 (.inl rfl) (.inr ⟨13, rfl, (Rg.no_of (fun h => hcl 2 _ rfl (hcl 3 _ rfl (hcl 8 _ rfl (hcl 11 _ rfl (hcl 13 _ rfl (h) ⟨11, .chain⟩ (by simp) rfl) ⟨8, .chain⟩ (by simp) rfl) ⟨3, .chain⟩ (by simp) rfl) ⟨2, .data⟩ (by simp) rfl) ⟨1, .data⟩ (by simp) rfl) hi)⟩)
        obtain ⟨c0, c1, c2, c3, c4⟩ := cells5 hA (b := w2.heap.size) (.head _)
        exact Ord.ex_value x rfl rfl (Rg.load da0 rfl (by simp [go_sem, c0, c1, c2, c3, c4])) rfl (hW.keep (by decide))
      | 2, ho, hi, hdep =>
        cases ho
        have da0 : ac.eval (.tmp 29) = .agg #[.int .i64 x0, .int .i64 x1, .int .i64 x2, .int .i64 x3, .int .i64 x4] := hF.2.2.2 0 29 _ rfl (hdep ⟨0, .data⟩ (by simp) rfl)
        have da1 : ac.eval (.tmp 30) = .agg #[.int .i64 x0, .int .i64 x1, .int .i64 x2, .int .i64 x3, .int .i64 x4] := hF.2.2.2 1 30 _ rfl (hdep ⟨1, .data⟩ (by simp) rfl)
        exact Ord.ex_value x rfl rfl (Rg.bin da0 da1 rfl (eqW _ _ _ _ _ _ _ _)) rfl (hW.keep (by decide))
      | 3, ho, hi, hdep =>
        cases ho
        have da0 : ac.eval (.tmp 31) = .bool true := hF.2.2.2 2 31 _ rfl (hdep ⟨2, .data⟩ (by simp) rfl)
        exact Ord.ex_value x rfl rfl (Rg.mv da0 rfl) rfl (hW.keep (by decide))
      | 4, ho, hi, hdep =>
        cases ho
        have dg : ac.eval (.tmp 32) = .bool true := hF.2.2.2 3 32 _ rfl (hdep ⟨3, .guard⟩ (by simp) rfl)
        have da0 : ac.eval (.tmp 12) = .int .i64 0 := hF.old 12 rfl
        exact Ord.ex_value x rfl (Ord.wanted_of dg (by rw [f1]; decide) rfl rfl) (Rg.mv da0 rfl) rfl (hW.keep (by decide))
      | 5, ho, hi, hdep =>
        cases ho
        have dg : ac.eval (.tmp 32) = .bool true := hF.2.2.2 3 32 _ rfl (hdep ⟨3, .guard⟩ (by simp) rfl)
        have da0 : ac.eval (.tmp 14) = .int .i64 0 := hF.old 14 rfl
        exact Ord.ex_value x rfl (Ord.wanted_of dg (by rw [f1]; decide) rfl rfl) (Rg.mv da0 rfl) rfl (hW.keep (by decide))
      | 6, ho, hi, hdep =>
        cases ho
        have dg : ac.eval (.tmp 32) = .bool true := hF.2.2.2 3 32 _ rfl (hdep ⟨3, .guard⟩ (by simp) rfl)
        have da0 : ac.eval (.tmp 33) = .int .i64 0 := hF.2.2.2 4 33 _ rfl (hdep ⟨4, .data⟩ (by simp) rfl)
        have da1 : ac.eval (.tmp 34) = .int .i64 0 := hF.2.2.2 5 34 _ rfl (hdep ⟨5, .data⟩ (by simp) rfl)
        exact Ord.ex_value x rfl (Ord.wanted_of dg (by rw [f1]; decide) rfl rfl) (Rg.bin da0 da1 rfl (by simp [go_sem])) rfl (hW.keep (by decide))
      | 7, ho, hi, hdep =>
        cases ho
        have da0 : ac.eval (.tmp 32) = .bool true := hF.2.2.2 3 32 _ rfl (hdep ⟨3, .data⟩ (by simp) rfl)
        have da1 : ac.eval (.tmp 35) = .bool true := hF.2.2.2 6 35 _ rfl (hdep ⟨6, .data⟩ (by simp) rfl)
        exact Ord.ex_value x rfl rfl (Rg.pick_t da0 da1 rfl) rfl (hW.keep (by decide))
      | 8, ho, hi, hdep =>
        cases ho
        have da0 : ac.eval (.tmp 36) = .bool true := hF.2.2.2 7 36 _ rfl (hdep ⟨7, .data⟩ (by simp) rfl)
        exact Ord.ex_value x rfl rfl (Rg.mv da0 rfl) rfl (hW.keep (by decide))
      | 9, ho, hi, hdep =>
        cases ho
        have dg : ac.eval (.tmp 37) = .bool true := hF.2.2.2 8 37 _ rfl (hdep ⟨8, .guard⟩ (by simp) rfl)
        have da0 : ac.eval (.tmp 14) = .int .i64 0 := hF.old 14 rfl
        exact Ord.ex_value x rfl (Ord.wanted_of dg (by rw [f1]; decide) rfl rfl) (Rg.mv da0 rfl) rfl (hW.keep (by decide))
      | 10, ho, hi, hdep =>
        cases ho
        have dg : ac.eval (.tmp 37) = .bool true := hF.2.2.2 8 37 _ rfl (hdep ⟨8, .guard⟩ (by simp) rfl)
        have da0 : ac.eval (.tmp 38) = .int .i64 0 := hF.2.2.2 9 38 _ rfl (hdep ⟨9, .data⟩ (by simp) rfl)
        exact Ord.ex_value x rfl (Ord.wanted_of dg (by rw [f1]; decide) rfl rfl) (Rg.bin da0 rfl rfl (by simp [go_sem])) rfl (hW.keep (by decide))
      | 11, ho, hi, hdep =>
        cases ho
        have dg : ac.eval (.tmp 37) = .bool true := hF.2.2.2 8 37 _ rfl (hdep ⟨8, .guard⟩ (by simp) rfl)
        have da0 : ac.eval (.tmp 39) = .bool false := hF.2.2.2 10 39 _ rfl (hdep ⟨10, .data⟩ (by simp) rfl)
        exact Ord.ex_value x rfl (Ord.wanted_of dg (by rw [f1]; decide) rfl rfl) (Rg.mv da0 rfl) rfl (hW.keep (by decide))
      | 12, ho, hi, hdep =>
        cases ho
        have dg : ac.eval (.tmp 40) = .bool false := hF.2.2.2 11 40 _ rfl (hdep ⟨11, .guard⟩ (by simp) rfl)
        have da0 : ac.eval (.tmp 11) = .pointer (some ⟨w1.heap.size, 0, none⟩) := hF.old 11 rfl
        obtain ⟨kq, hlo, hhi, hA⟩ := hW.range 0 0 (.inl rfl) (.inr ⟨13, rfl, (Rg.no_of (fun h => hcl 13 _ rfl (h) ⟨12, .data⟩ (by simp) rfl) hi)⟩)
        obtain ⟨c0, c1, c2, c3, c4⟩ := cells5 hA (b := w1.heap.size) (.tail _ (.head _))
        exact Ord.ex_value x rfl (Ord.wanted_of dg (by rw [f1]; decide) rfl rfl) (Rg.load da0 rfl (by simp [go_sem, c0, c1, c2, c3, c4])) rfl (hW.keep (by decide))
      | 13, ho, hi, hdep =>
        cases ho
        have dg : ac.eval (.tmp 40) = .bool false := hF.2.2.2 11 40 _ rfl (hdep ⟨11, .guard⟩ (by simp) rfl)
        have da0 : ac.eval (.tmp 41) = .agg #[.int .i64 x0, .int .i64 x1, .int .i64 x2, .int .i64 x3, .int .i64 x4] := hF.2.2.2 12 41 _ rfl (hdep ⟨12, .data⟩ (by simp) rfl)
        have hA := hW.at (k := 0) rfl hi (.inl rfl)
        refine Rg.ex_call x rfl (Ord.wanted_of dg (by rw [f1]; decide) rfl rfl) (Rg.enter (args := #[.agg #[.int .i64 x0, .int .i64 x1, .int .i64 x2, .int .i64 x3, .int .i64 x4]]) rfl rfl (by simp [da0]) ERM.out) (Calls.mono (RM.out _) ?_)
        rintro e w2 ⟨rfl, hB⟩
        exact ⟨rfl, hW.next (k := 0) rfl (by decide) hi (.inl rfl) (hA.later hB)⟩
      | 14, ho, hi, hdep =>
        cases ho
        have dg : ac.eval (.tmp 37) = .bool true := hF.2.2.2 8 37 _ rfl (hdep ⟨8, .guard⟩ (by simp) rfl)
        have da0 : ac.eval (.tmp 40) = .bool false := hF.2.2.2 11 40 _ rfl (hdep ⟨11, .data⟩ (by simp) rfl)
        have da1 : ac.eval (.tmp 42) = .bool true := hF.2.2.2 13 42 _ rfl (hdep ⟨13, .data⟩ (by simp) rfl)
        exact Ord.ex_value x rfl (Ord.wanted_of dg (by rw [f1]; decide) rfl rfl) (Rg.pick_f da0 da1 rfl) rfl (hW.keep (by decide))
      | 15, ho, hi, hdep =>
        cases ho
        have da0 : ac.eval (.tmp 37) = .bool true := hF.2.2.2 8 37 _ rfl (hdep ⟨8, .data⟩ (by simp) rfl)
        have da1 : ac.eval (.tmp 43) = .bool true := hF.2.2.2 14 43 _ rfl (hdep ⟨14, .data⟩ (by simp) rfl)
        exact Ord.ex_value x rfl rfl (Rg.pick_t da0 da1 rfl) rfl (hW.keep (by decide))
      | 16, ho, hi, hdep =>
        cases ho
        have da0 : ac.eval (.tmp 44) = .bool true := hF.2.2.2 15 44 _ rfl (hdep ⟨15, .data⟩ (by simp) rfl)
        exact Ord.ex_value x rfl rfl (Rg.mv da0 rfl) rfl (hW.keep (by decide))
      | 17, ho, hi, hdep =>
        cases ho
        have dg : ac.eval (.tmp 45) = .bool true := hF.2.2.2 16 45 _ rfl (hdep ⟨16, .guard⟩ (by simp) rfl)
        have da0 : ac.eval (.tmp 8) = .pointer (some ⟨w.heap.size, 0, none⟩) := hF.old 8 rfl
        obtain ⟨kq, hlo, hhi, hA⟩ := hW.range 1 1 (.inr ⟨13, rfl, (hcl 16 _ rfl (hdep ⟨16, .guard⟩ (by simp) rfl) ⟨13, .chain⟩ (by simp) rfl)⟩) (.inr ⟨18, rfl, (Rg.no_of (fun h => hcl 18 _ rfl (h) ⟨17, .data⟩ (by simp) rfl) hi)⟩)
        obtain ⟨c0, c1, c2, c3, c4⟩ := cells5 hA (b := w.heap.size) (.tail _ (.tail _ (.head _)))
        exact Ord.ex_value x rfl (Ord.wanted_of dg (by rw [f1]; decide) rfl rfl) (Rg.load da0 rfl (by simp [go_sem, c0, c1, c2, c3, c4])) rfl (hW.keep (by decide))
      | 18, ho, hi, hdep =>
        cases ho
        have dg : ac.eval (.tmp 45) = .bool true := hF.2.2.2 16 45 _ rfl (hdep ⟨16, .guard⟩ (by simp) rfl)
        have da0 : ac.eval (.tmp 46) = .agg #[.int .i64 c, .int .i64 s, .int .i64 p, .int .i64 m, .int .i64 k] := hF.2.2.2 17 46 _ rfl (hdep ⟨17, .data⟩ (by simp) rfl)
        have hA := hW.at (k := 1) rfl hi (.inr ⟨13, rfl, (hcl 16 _ rfl (hdep ⟨16, .chain⟩ (by simp) rfl) ⟨13, .chain⟩ (by simp) rfl)⟩)
        refine Rg.ex_call x rfl (Ord.wanted_of dg (by rw [f1]; decide) rfl rfl) (Rg.enter (args := #[.agg #[.int .i64 c, .int .i64 s, .int .i64 p, .int .i64 m, .int .i64 k]]) rfl rfl (by simp [da0]) ECX.out) (Calls.mono (CX.out _) ?_)
        rintro e w2 ⟨rfl, hB⟩
        exact ⟨rfl, hW.next (k := 1) rfl (by decide) hi (.inr ⟨13, rfl, (hcl 16 _ rfl (hdep ⟨16, .chain⟩ (by simp) rfl) ⟨13, .chain⟩ (by simp) rfl)⟩) (hA.later hB)⟩
      | 19, ho, hi, hdep =>
        cases ho
        have dg : ac.eval (.tmp 45) = .bool true := hF.2.2.2 16 45 _ rfl (hdep ⟨16, .guard⟩ (by simp) rfl)
        have da0 : ac.eval (.tmp 8) = .pointer (some ⟨w.heap.size, 0, none⟩) := hF.old 8 rfl
        obtain ⟨kq, hlo, hhi, hA⟩ := hW.range 1 2 (.inr ⟨13, rfl, (hcl 16 _ rfl (hdep ⟨16, .guard⟩ (by simp) rfl) ⟨13, .chain⟩ (by simp) rfl)⟩) (.inr ⟨20, rfl, (Rg.no_of (fun h => hcl 20 _ rfl (h) ⟨19, .data⟩ (by simp) rfl) hi)⟩)
        obtain ⟨c0, c1, c2, c3, c4⟩ := cells5 hA (b := w.heap.size) (.tail _ (.tail _ (.head _)))
        exact Ord.ex_value x rfl (Ord.wanted_of dg (by rw [f1]; decide) rfl rfl) (Rg.load da0 rfl (by simp [go_sem, c0, c1, c2, c3, c4])) rfl (hW.keep (by decide))
      | 20, ho, hi, hdep =>
        cases ho
        have dg : ac.eval (.tmp 45) = .bool true := hF.2.2.2 16 45 _ rfl (hdep ⟨16, .guard⟩ (by simp) rfl)
        have da0 : ac.eval (.tmp 48) = .agg #[.int .i64 c, .int .i64 s, .int .i64 p, .int .i64 m, .int .i64 k] := hF.2.2.2 19 48 _ rfl (hdep ⟨19, .data⟩ (by simp) rfl)
        have hA := hW.at (k := 2) rfl hi (.inr ⟨18, rfl, (hdep ⟨18, .chain⟩ (by simp) rfl)⟩)
        refine Rg.ex_call x rfl (Ord.wanted_of dg (by rw [f1]; decide) rfl rfl) (Rg.enter (args := #[.agg #[.int .i64 c, .int .i64 s, .int .i64 p, .int .i64 m, .int .i64 k]]) rfl rfl (by simp [da0]) ERC.out) (Calls.mono (RC.out _) ?_)
        rintro e w2 ⟨rfl, hB⟩
        exact ⟨rfl, hW.next (k := 2) rfl (by decide) hi (.inr ⟨18, rfl, (hdep ⟨18, .chain⟩ (by simp) rfl)⟩) (hA.later hB)⟩
      | 21, ho, hi, hdep =>
        cases ho
        have dg : ac.eval (.tmp 45) = .bool true := hF.2.2.2 16 45 _ rfl (hdep ⟨16, .guard⟩ (by simp) rfl)
        have da0 : ac.eval (.tmp 47) = .int .i64 y := hF.2.2.2 18 47 _ rfl (hdep ⟨18, .data⟩ (by simp) rfl)
        have da1 : ac.eval (.tmp 49) = .int .i64 y := hF.2.2.2 20 49 _ rfl (hdep ⟨20, .data⟩ (by simp) rfl)
        exact Ord.ex_value x rfl (Ord.wanted_of dg (by rw [f1]; decide) rfl rfl) (Rg.bin da0 da1 rfl (by simp [go_sem])) rfl (hW.keep (by decide))
      | 22, ho, hi, hdep =>
        cases ho
        have da0 : ac.eval (.tmp 45) = .bool true := hF.2.2.2 16 45 _ rfl (hdep ⟨16, .data⟩ (by simp) rfl)
        have da1 : ac.eval (.tmp 50) = .bool true := hF.2.2.2 21 50 _ rfl (hdep ⟨21, .data⟩ (by simp) rfl)
        exact Ord.ex_value x rfl rfl (Rg.pick_t da0 da1 rfl) rfl (hW.keep (by decide))
      | 23, ho, hi, hdep =>
        cases ho
        have da0 : ac.eval (.tmp 51) = .bool true := hF.2.2.2 22 51 _ rfl (hdep ⟨22, .data⟩ (by simp) rfl)
        exact Ord.ex_value x rfl rfl (Rg.mv da0 rfl) rfl (hW.keep (by decide))
      | 24, ho, hi, hdep =>
        cases ho
        have dg : ac.eval (.tmp 52) = .bool true := hF.2.2.2 23 52 _ rfl (hdep ⟨23, .guard⟩ (by simp) rfl)
        have da0 : ac.eval (.tmp 8) = .pointer (some ⟨w.heap.size, 0, none⟩) := hF.old 8 rfl
        obtain ⟨kq, hlo, hhi, hA⟩ := hW.range 3 3 (.inr ⟨20, rfl, (hcl 23 _ rfl (hdep ⟨23, .guard⟩ (by simp) rfl) ⟨20, .chain⟩ (by simp) rfl)⟩) (.inr ⟨26, rfl, (Rg.no_of (fun h => hcl 26 _ rfl (h) ⟨24, .data⟩ (by simp) rfl) hi)⟩)
        obtain ⟨c0, c1, c2, c3, c4⟩ := cells5 hA (b := w.heap.size) (.tail _ (.tail _ (.head _)))
        exact Ord.ex_value x rfl (Ord.wanted_of dg (by rw [f1]; decide) rfl rfl) (Rg.load da0 rfl (by simp [go_sem, c0, c1, c2, c3, c4])) rfl (hW.keep (by decide))
      | 25, ho, hi, hdep =>
        cases ho
        have dg : ac.eval (.tmp 52) = .bool true := hF.2.2.2 23 52 _ rfl (hdep ⟨23, .guard⟩ (by simp) rfl)
        have da0 : ac.eval (.tmp 4) = .int .i64 a4 := hF.old 4 rfl
        exact Ord.ex_value x rfl (Ord.wanted_of dg (by rw [f1]; decide) rfl rfl) (Rg.mv da0 rfl) rfl (hW.keep (by decide))
      | 26, ho, hi, hdep =>
        cases ho
        have dg : ac.eval (.tmp 52) = .bool true := hF.2.2.2 23 52 _ rfl (hdep ⟨23, .guard⟩ (by simp) rfl)
        have da0 : ac.eval (.tmp 53) = .agg #[.int .i64 c, .int .i64 s, .int .i64 p, .int .i64 m, .int .i64 k] := hF.2.2.2 24 53 _ rfl (hdep ⟨24, .data⟩ (by simp) rfl)
        have da1 : ac.eval (.tmp 54) = .int .i64 a4 := hF.2.2.2 25 54 _ rfl (hdep ⟨25, .data⟩ (by simp) rfl)
        have hA := hW.at (k := 3) rfl hi (.inr ⟨20, rfl, (hcl 23 _ rfl (hdep ⟨23, .chain⟩ (by simp) rfl) ⟨20, .chain⟩ (by simp) rfl)⟩)
        refine Rg.ex_call x rfl (Ord.wanted_of dg (by rw [f1]; decide) rfl rfl) (Rg.enter (args := #[.agg #[.int .i64 c, .int .i64 s, .int .i64 p, .int .i64 m, .int .i64 k], .int .i64 a4]) rfl rfl (by simp [da0, da1]) ESX.out) (Calls.mono (SX.out _) ?_)
        rintro e w2 ⟨rfl, hB⟩
        exact ⟨rfl, hW.next (k := 3) rfl (by decide) hi (.inr ⟨20, rfl, (hcl 23 _ rfl (hdep ⟨23, .chain⟩ (by simp) rfl) ⟨20, .chain⟩ (by simp) rfl)⟩) (hA.later hB)⟩
      | 27, ho, hi, hdep =>
        cases ho
        have dg : ac.eval (.tmp 52) = .bool true := hF.2.2.2 23 52 _ rfl (hdep ⟨23, .guard⟩ (by simp) rfl)
        have da0 : ac.eval (.tmp 8) = .pointer (some ⟨w.heap.size, 0, none⟩) := hF.old 8 rfl
        obtain ⟨kq, hlo, hhi, hA⟩ := hW.range 3 4 (.inr ⟨20, rfl, (hcl 23 _ rfl (hdep ⟨23, .guard⟩ (by simp) rfl) ⟨20, .chain⟩ (by simp) rfl)⟩) (.inr ⟨29, rfl, (Rg.no_of (fun h => hcl 29 _ rfl (h) ⟨27, .data⟩ (by simp) rfl) hi)⟩)
        obtain ⟨c0, c1, c2, c3, c4⟩ := cells5 hA (b := w.heap.size) (.tail _ (.tail _ (.head _)))
        exact Ord.ex_value x rfl (Ord.wanted_of dg (by rw [f1]; decide) rfl rfl) (Rg.load da0 rfl (by simp [go_sem, c0, c1, c2, c3, c4])) rfl (hW.keep (by decide))
      | 28, ho, hi, hdep =>
        cases ho
        have dg : ac.eval (.tmp 52) = .bool true := hF.2.2.2 23 52 _ rfl (hdep ⟨23, .guard⟩ (by simp) rfl)
        have da0 : ac.eval (.tmp 4) = .int .i64 a4 := hF.old 4 rfl
        exact Ord.ex_value x rfl (Ord.wanted_of dg (by rw [f1]; decide) rfl rfl) (Rg.mv da0 rfl) rfl (hW.keep (by decide))
      | 29, ho, hi, hdep =>
        cases ho
        have dg : ac.eval (.tmp 52) = .bool true := hF.2.2.2 23 52 _ rfl (hdep ⟨23, .guard⟩ (by simp) rfl)
        have da0 : ac.eval (.tmp 56) = .agg #[.int .i64 c, .int .i64 s, .int .i64 p, .int .i64 m, .int .i64 k] := hF.2.2.2 27 56 _ rfl (hdep ⟨27, .data⟩ (by simp) rfl)
        have da1 : ac.eval (.tmp 57) = .int .i64 a4 := hF.2.2.2 28 57 _ rfl (hdep ⟨28, .data⟩ (by simp) rfl)
        have hA := hW.at (k := 4) rfl hi (.inr ⟨26, rfl, (hdep ⟨26, .chain⟩ (by simp) rfl)⟩)
        refine Rg.ex_call x rfl (Ord.wanted_of dg (by rw [f1]; decide) rfl rfl) (Rg.enter (args := #[.agg #[.int .i64 c, .int .i64 s, .int .i64 p, .int .i64 m, .int .i64 k], .int .i64 a4]) rfl rfl (by simp [da0, da1]) ERS.out) (Calls.mono (RS.out _) ?_)
        rintro e w2 ⟨rfl, hB⟩
        exact ⟨rfl, hW.next (k := 4) rfl (by decide) hi (.inr ⟨26, rfl, (hdep ⟨26, .chain⟩ (by simp) rfl)⟩) (hA.later hB)⟩
      | 30, ho, hi, hdep =>
        cases ho
        have dg : ac.eval (.tmp 52) = .bool true := hF.2.2.2 23 52 _ rfl (hdep ⟨23, .guard⟩ (by simp) rfl)
        have da0 : ac.eval (.tmp 55) = .int .i64 z := hF.2.2.2 26 55 _ rfl (hdep ⟨26, .data⟩ (by simp) rfl)
        have da1 : ac.eval (.tmp 58) = .int .i64 z := hF.2.2.2 29 58 _ rfl (hdep ⟨29, .data⟩ (by simp) rfl)
        exact Ord.ex_value x rfl (Ord.wanted_of dg (by rw [f1]; decide) rfl rfl) (Rg.bin da0 da1 rfl (by simp [go_sem])) rfl (hW.keep (by decide))
      | 31, ho, hi, hdep =>
        cases ho
        have da0 : ac.eval (.tmp 52) = .bool true := hF.2.2.2 23 52 _ rfl (hdep ⟨23, .data⟩ (by simp) rfl)
        have da1 : ac.eval (.tmp 59) = .bool true := hF.2.2.2 30 59 _ rfl (hdep ⟨30, .data⟩ (by simp) rfl)
        exact Ord.ex_value x rfl rfl (Rg.pick_t da0 da1 rfl) rfl (hW.keep (by decide))
      | 32, ho, hi, hdep =>
        cases ho
        have da0 : ac.eval (.tmp 60) = .bool true := hF.2.2.2 31 60 _ rfl (hdep ⟨31, .data⟩ (by simp) rfl)
        exact Ord.ex_value x rfl rfl (Rg.mv da0 rfl) rfl (hW.keep (by decide))
      | 33, ho, hi, hdep =>
        cases ho
        have dg : ac.eval (.tmp 61) = .bool true := hF.2.2.2 32 61 _ rfl (hdep ⟨32, .guard⟩ (by simp) rfl)
        have hA := hW.at (k := 5) rfl hi (.inr ⟨29, rfl, (hcl 32 _ rfl (hdep ⟨32, .chain⟩ (by simp) rfl) ⟨29, .chain⟩ (by simp) rfl)⟩)
        refine Rg.ex_call x rfl (Ord.wanted_of dg (by rw [f1]; decide) rfl rfl) (Rg.enter (args := #[]) rfl rfl (by simp) EAW.out) (Calls.mono (AW.out _) ?_)
        rintro e w2 ⟨rfl, hB⟩
        exact ⟨rfl, hW.next (k := 5) rfl (by decide) hi (.inr ⟨29, rfl, (hcl 32 _ rfl (hdep ⟨32, .chain⟩ (by simp) rfl) ⟨29, .chain⟩ (by simp) rfl)⟩) (hA.later hB)⟩
      | 34, ho, hi, hdep =>
        cases ho
        have da0 : ac.eval (.tmp 61) = .bool true := hF.2.2.2 32 61 _ rfl (hdep ⟨32, .data⟩ (by simp) rfl)
        have da1 : ac.eval (.tmp 62) = .bool true := hF.2.2.2 33 62 _ rfl (hdep ⟨33, .data⟩ (by simp) rfl)
        exact Ord.ex_value x rfl rfl (Rg.pick_t da0 da1 rfl) rfl (hW.keep (by decide))
      | 35, ho, hi, hdep =>
        cases ho
        have da0 : ac.eval (.tmp 63) = .bool true := hF.2.2.2 34 63 _ rfl (hdep ⟨34, .data⟩ (by simp) rfl)
        exact Ord.ex_value x rfl rfl (Rg.asg da0 rfl) rfl (hW.keep (by decide))
    case refine_2 =>
      intro x w' hW
      have hw := hidden hW.last.below
      clear hW
      simp only [Ord.puts, Ord.prs]
      go_simp
      go_wp2
      go_ret
      exact ⟨rfl, hw.out⟩
    case refine_3 => exact Rg.StM.first O2.out.drew
  · rw [show opV a0 a1 a2 = ((0, 0, 0, 0, 0), 1) by unfold opV; rw [if_neg hb]; rfl] at A B
    clear hb
    unfold tr tv at A B
    simp only at A B
    go_enter Try.func5, Try.ntmps5
    go_wp2_with fail
    refine Calls.mono (A.out _) ?_
    rintro e w1 ⟨rfl, hB⟩
    have O1 := hidden ((O.out.later hB).alloc #[.int .i64 0, .int .i64 0, .int .i64 0, .int .i64 0, .int .i64 0] 23)
    clear hB O A
    go_wp2_with fail
    refine Calls.mono (B.out _) ?_
    rintro e w2 ⟨rfl, hB⟩
    have O2 := hidden ((O1.out.later hB).alloc #[.int .i64 0, .int .i64 0, .int .i64 0, .int .i64 0, .int .i64 0] 23)
    clear hB O1 B
    go_upto_region 3 with fail
    refine Ord.wp_region_ex0 (X := Unit) (by kernel_rfl) 64 (fun x => [(some 29, .agg #[.int .i64 0, .int .i64 0, .int .i64 0, .int .i64 0, .int .i64 0]), (some 30, .agg #[.int .i64 0, .int .i64 0, .int .i64 0, .int .i64 0, .int .i64 0]), (some 31, .bool true), (some 32, .bool true), (some 33, .int .i64 1), (some 34, .int .i64 1), (some 35, .bool true), (some 36, .bool true), (some 37, .bool true), (some 38, .int .i64 1), (some 39, .bool true), (some 40, .bool true), (some 41, undef), (some 42, undef), (some 43, .bool true), (some 44, .bool true), (some 45, .bool true), (some 46, .agg #[.int .i64 c, .int .i64 s, .int .i64 p, .int .i64 m, .int .i64 k]), (some 47, .int .i64 y), (some 48, .agg #[.int .i64 c, .int .i64 s, .int .i64 p, .int .i64 m, .int .i64 k]), (some 49, .int .i64 y), (some 50, .bool true), (some 51, .bool true), (some 52, .bool true), (some 53, .agg #[.int .i64 c, .int .i64 s, .int .i64 p, .int .i64 m, .int .i64 k]), (some 54, .int .i64 a4), (some 55, .int .i64 z), (some 56, .agg #[.int .i64 c, .int .i64 s, .int .i64 p, .int .i64 m, .int .i64 k]), (some 57, .int .i64 a4), (some 58, .int .i64 z), (some 59, .bool true), (some 60, .bool true), (some 61, .bool true), (some 62, .bool true), (some 63, .bool true), (some 10, .bool true)]) [some 29, some 30, some 31, some 32, some 33, some 34, some 35, some 36, some 37, some 38, some 39, some 40, some 41, some 42, some 43, some 44, some 45, some 46, some 47, some 48, some 49, some 50, some 51, some 52, some 53, some 54, some 55, some 56, some 57, some 58, some 59, some 60, some 61, some 62, some 63, some 10] rfl (fun listed hsz hr => Ord.all_listedC (rank := [0, 1, 2, 3, 4, 5, 6, 7, 8, 9, 10, 11, 12, 13, 14, 15, 16, 17, 18, 19, 20, 21, 22, 23, 24, 25, 26, 27, 28, 29, 30, 31, 32, 33, 34, 35]) (by kernel_rfl) hsz hr) (by rfl) (fun _ => rfl) (by kernel_rfl) (Rg.StM [18, 20, 26, 29, 33] (fun _ _ w' => Own w w' [(w2.heap.size, #[.int .i64 0, .int .i64 0, .int .i64 0, .int .i64 0, .int .i64 0], 23), (w1.heap.size, #[.int .i64 0, .int .i64 0, .int .i64 0, .int .i64 0, .int .i64 0], 23), (w.heap.size, #[.int .i64 c, .int .i64 s, .int .i64 p, .int .i64 m, .int .i64 k], 23)])) (fun _ _ _ _ hL h => h.ext (n := 36) (by decide) hL) ?_ ?_ () ?_
    case refine_1 =>
      intro x Lq iq oq ac w' ho hi hcl hdep hF hW
      have f1 : ac.tmps.size = 64 := hF.1
      match iq, ho, hi, hdep with
      | 0, ho, hi, hdep =>
        cases ho
        have da0 : ac.eval (.tmp 11) = .pointer (some ⟨w1.heap.size, 0, none⟩) := hF.old 11 rfl
        obtain ⟨kq, hlo, hhi, hA⟩ := hW.range 0 0 (.inl rfl) (.inr ⟨18, rfl, (Rg.no_of (fun h => hcl 2 _ rfl (hcl 3 _ rfl (hcl 8 _ rfl (hcl 15 _ rfl (hcl 16 _ rfl (hcl 18 _ rfl (h) ⟨16, .chain⟩ (by simp) rfl) ⟨15, .data⟩ (by simp) rfl) ⟨8, .data⟩ (by simp) rfl) ⟨3, .chain⟩ (by simp) rfl) ⟨2, .data⟩ (by simp) rfl) ⟨0, .data⟩ (by simp) rfl) hi)⟩)
        obtain ⟨c0, c1, c2, c3, c4⟩ := cells5 hA (b := w1.heap.size) (.tail _ (.head _))
        exact Ord.ex_value x rfl rfl (Rg.load da0 rfl (by simp [go_sem, c0, c1, c2, c3, c4])) rfl (hW.keep (by decide))
      | 1, ho, hi, hdep =>
        cases ho
        have da0 : ac.eval (.tmp 13) = .pointer (some ⟨w2.heap.size, 0, none⟩) := hF.old 13 rfl
        obtain ⟨kq, hlo, hhi, hA⟩ := hW.range 0 0 (.inl rfl) (.inr ⟨18, rfl, (Rg.no_of (fun h => hcl 2 _ rfl (hcl 3 _ rfl (hcl 8 _ rfl (hcl 15 _ rfl (hcl 16 _ rfl (hcl 18 _ rfl (h) ⟨16, .chain⟩ (by simp) rfl) ⟨15, .data⟩ (by simp) rfl) ⟨8, .data⟩ (by simp) rfl) ⟨3, .chain⟩ (by simp) rfl) ⟨2, .data⟩ (by simp) rfl) ⟨1, .data⟩ (by simp) rfl) hi)⟩)
        obtain ⟨c0, c1, c2, c3, c4⟩ := cells5 hA (b := w2.heap.size) (.head _)
        exact Ord.ex_value x rfl rfl (Rg.load da0 rfl (by simp [go_sem, c0, c1, c2, c3, c4])) rfl (hW.keep (by decide))
      | 2, ho, hi, hdep =>
        cases ho
        have da0 : ac.eval (.tmp 29) = .agg #[.int .i64 0, .int .i64 0, .int .i64 0, .int .i64 0, .int .i64 0] := hF.2.2.2 0 29 _ rfl (hdep ⟨0, .data⟩ (by simp) rfl)
        have da1 : ac.eval (.tmp 30) = .agg #[.int .i64 0, .int .i64 0, .int .i64 0, .int .i64 0, .int .i64 0] := hF.2.2.2 1 30 _ rfl (hdep ⟨1, .data⟩ (by simp) rfl)
        exact Ord.ex_value x rfl rfl (Rg.bin da0 da1 rfl (eqW _ _ _ _ _ _ _ _)) rfl (hW.keep (by decide))
      | 3, ho, hi, hdep =>
        cases ho
        have da0 : ac.eval (.tmp 31) = .bool true := hF.2.2.2 2 31 _ rfl (hdep ⟨2, .data⟩ (by simp) rfl)
        exact Ord.ex_value x rfl rfl (Rg.mv da0 rfl) rfl (hW.keep (by decide))
      | 4, ho, hi, hdep =>
        cases ho
        have dg : ac.eval (.tmp 32) = .bool true := hF.2.2.2 3 32 _ rfl (hdep ⟨3, .guard⟩ (by simp) rfl)
        have da0 : ac.eval (.tmp 12) = .int .i64 1 := hF.old 12 rfl
        exact Ord.ex_value x rfl (Ord.wanted_of dg (by rw [f1]; decide) rfl rfl) (Rg.mv da0 rfl) rfl (hW.keep (by decide))
      | 5, ho, hi, hdep =>
        cases ho
        have dg : ac.eval (.tmp 32) = .bool true := hF.2.2.2 3 32 _ rfl (hdep ⟨3, .guard⟩ (by simp) rfl)
        have da0 : ac.eval (.tmp 14) = .int .i64 1 := hF.old 14 rfl
        exact Ord.ex_value x rfl (Ord.wanted_of dg (by rw [f1]; decide) rfl rfl) (Rg.mv da0 rfl) rfl (hW.keep (by decide))
      | 6, ho, hi, hdep =>
        cases ho
        have dg : ac.eval (.tmp 32) = .bool true := hF.2.2.2 3 32 _ rfl (hdep ⟨3, .guard⟩ (by simp) rfl)
        have da0 : ac.eval (.tmp 33) = .int .i64 1 := hF.2.2.2 4 33 _ rfl (hdep ⟨4, .data⟩ (by simp) rfl)
        have da1 : ac.eval (.tmp 34) = .int .i64 1 := hF.2.2.2 5 34 _ rfl (hdep ⟨5, .data⟩ (by simp) rfl)
        exact Ord.ex_value x rfl (Ord.wanted_of dg (by rw [f1]; decide) rfl rfl) (Rg.bin da0 da1 rfl (by simp [go_sem])) rfl (hW.keep (by decide))
      | 7, ho, hi, hdep =>
        cases ho
        have da0 : ac.eval (.tmp 32) = .bool true := hF.2.2.2 3 32 _ rfl (hdep ⟨3, .data⟩ (by simp) rfl)
        have da1 : ac.eval (.tmp 35) = .bool true := hF.2.2.2 6 35 _ rfl (hdep ⟨6, .data⟩ (by simp) rfl)
        exact Ord.ex_value x rfl rfl (Rg.pick_t da0 da1 rfl) rfl (hW.keep (by decide))
      | 8, ho, hi, hdep =>
        cases ho
        have da0 : ac.eval (.tmp 36) = .bool true := hF.2.2.2 7 36 _ rfl (hdep ⟨7, .data⟩ (by simp) rfl)
        exact Ord.ex_value x rfl rfl (Rg.mv da0 rfl) rfl (hW.keep (by decide))
      | 9, ho, hi, hdep =>
        cases ho
        have dg : ac.eval (.tmp 37) = .bool true := hF.2.2.2 8 37 _ rfl (hdep ⟨8, .guard⟩ (by simp) rfl)
        have da0 : ac.eval (.tmp 14) = .int .i64 1 := hF.old 14 rfl
        exact Ord.ex_value x rfl (Ord.wanted_of dg (by rw [f1]; decide) rfl rfl) (Rg.mv da0 rfl) rfl (hW.keep (by decide))
      | 10, ho, hi, hdep =>
        cases ho
        have dg : ac.eval (.tmp 37) = .bool true := hF.2.2.2 8 37 _ rfl (hdep ⟨8, .guard⟩ (by simp) rfl)
        have da0 : ac.eval (.tmp 38) = .int .i64 1 := hF.2.2.2 9 38 _ rfl (hdep ⟨9, .data⟩ (by simp) rfl)
        exact Ord.ex_value x rfl (Ord.wanted_of dg (by rw [f1]; decide) rfl rfl) (Rg.bin da0 rfl rfl (by simp [go_sem])) rfl (hW.keep (by decide))
      | 11, ho, hi, hdep =>
        cases ho
        have dg : ac.eval (.tmp 37) = .bool true := hF.2.2.2 8 37 _ rfl (hdep ⟨8, .guard⟩ (by simp) rfl)
        have da0 : ac.eval (.tmp 39) = .bool true := hF.2.2.2 10 39 _ rfl (hdep ⟨10, .data⟩ (by simp) rfl)
        exact Ord.ex_value x rfl (Ord.wanted_of dg (by rw [f1]; decide) rfl rfl) (Rg.mv da0 rfl) rfl (hW.keep (by decide))
      | 12, ho, hi, hdep =>
        cases ho
        have dg : ac.eval (.tmp 40) = .bool true := hF.2.2.2 11 40 _ rfl (hdep ⟨11, .guard⟩ (by simp) rfl)
        exact Cw.ex_not x rfl (Ord.wanted_no (bv := false) dg (by rw [f1]; decide) rfl rfl) rfl (hW.keep (by decide))
      | 13, ho, hi, hdep =>
        cases ho
        have dg : ac.eval (.tmp 40) = .bool true := hF.2.2.2 11 40 _ rfl (hdep ⟨11, .guard⟩ (by simp) rfl)
        exact Cw.ex_not x rfl (Ord.wanted_no (bv := false) dg (by rw [f1]; decide) rfl rfl) rfl (hW.keep (by decide))
      | 14, ho, hi, hdep =>
        cases ho
        have dg : ac.eval (.tmp 37) = .bool true := hF.2.2.2 8 37 _ rfl (hdep ⟨8, .guard⟩ (by simp) rfl)
        have da0 : ac.eval (.tmp 40) = .bool true := hF.2.2.2 11 40 _ rfl (hdep ⟨11, .data⟩ (by simp) rfl)
        have da1 : ac.eval (.tmp 42) = undef := hF.2.2.2 13 42 _ rfl (hdep ⟨13, .data⟩ (by simp) rfl)
        exact Ord.ex_value x rfl (Ord.wanted_of dg (by rw [f1]; decide) rfl rfl) (Rg.pick_t da0 rfl rfl) rfl (hW.keep (by decide))
      | 15, ho, hi, hdep =>
        cases ho
        have da0 : ac.eval (.tmp 37) = .bool true := hF.2.2.2 8 37 _ rfl (hdep ⟨8, .data⟩ (by simp) rfl)
        have da1 : ac.eval (.tmp 43) = .bool true := hF.2.2.2 14 43 _ rfl (hdep ⟨14, .data⟩ (by simp) rfl)
        exact Ord.ex_value x rfl rfl (Rg.pick_t da0 da1 rfl) rfl (hW.keep (by decide))
      | 16, ho, hi, hdep =>
        cases ho
        have da0 : ac.eval (.tmp 44) = .bool true := hF.2.2.2 15 44 _ rfl (hdep ⟨15, .data⟩ (by simp) rfl)
        exact Ord.ex_value x rfl rfl (Rg.mv da0 rfl) rfl (hW.keep (by decide))
      | 17, ho, hi, hdep =>
        cases ho
        have dg : ac.eval (.tmp 45) = .bool true := hF.2.2.2 16 45 _ rfl (hdep ⟨16, .guard⟩ (by simp) rfl)
        have da0 : ac.eval (.tmp 8) = .pointer (some ⟨w.heap.size, 0, none⟩) := hF.old 8 rfl
        obtain ⟨kq, hlo, hhi, hA⟩ := hW.range 0 0 (.inl rfl) (.inr ⟨18, rfl, (Rg.no_of (fun h => hcl 18 _ rfl (h) ⟨17, .data⟩ (by simp) rfl) hi)⟩)
        obtain ⟨c0, c1, c2, c3, c4⟩ := cells5 hA (b := w.heap.size) (.tail _ (.tail _ (.head _)))
        exact Ord.ex_value x rfl (Ord.wanted_of dg (by rw [f1]; decide) rfl rfl) (Rg.load da0 rfl (by simp [go_sem, c0, c1, c2, c3, c4])) rfl (hW.keep (by decide))
      | 18, ho, hi, hdep =>
        cases ho
        have dg : ac.eval (.tmp 45) = .bool true := hF.2.2.2 16 45 _ rfl (hdep ⟨16, .guard⟩ (by simp) rfl)
        have da0 : ac.eval (.tmp 46) = .agg #[.int .i64 c, .int .i64 s, .int .i64 p, .int .i64 m, .int .i64 k] := hF.2.2.2 17 46 _ rfl (hdep ⟨17, .data⟩ (by simp) rfl)
        have hA := hW.at (k := 0) rfl hi (.inl rfl)
        refine Rg.ex_call x rfl (Ord.wanted_of dg (by rw [f1]; decide) rfl rfl) (Rg.enter (args := #[.agg #[.int .i64 c, .int .i64 s, .int .i64 p, .int .i64 m, .int .i64 k]]) rfl rfl (by simp [da0]) ECX.out) (Calls.mono (CX.out _) ?_)
        rintro e w2 ⟨rfl, hB⟩
        exact ⟨rfl, hW.next (k := 0) rfl (by decide) hi (.inl rfl) (hA.later hB)⟩
      | 19, ho, hi, hdep =>
        cases ho
        have dg : ac.eval (.tmp 45) = .bool true := hF.2.2.2 16 45 _ rfl (hdep ⟨16, .guard⟩ (by simp) rfl)
        have da0 : ac.eval (.tmp 8) = .pointer (some ⟨w.heap.size, 0, none⟩) := hF.old 8 rfl
        obtain ⟨kq, hlo, hhi, hA⟩ := hW.range 0 1 (.inl rfl) (.inr ⟨20, rfl, (Rg.no_of (fun h => hcl 20 _ rfl (h) ⟨19, .data⟩ (by simp) rfl) hi)⟩)
        obtain ⟨c0, c1, c2, c3, c4⟩ := cells5 hA (b := w.heap.size) (.tail _ (.tail _ (.head _)))
        exact Ord.ex_value x rfl (Ord.wanted_of dg (by rw [f1]; decide) rfl rfl) (Rg.load da0 rfl (by simp [go_sem, c0, c1, c2, c3, c4])) rfl (hW.keep (by decide))
      | 20, ho, hi, hdep =>
        cases ho
        have dg : ac.eval (.tmp 45) = .bool true := hF.2.2.2 16 45 _ rfl (hdep ⟨16, .guard⟩ (by simp) rfl)
        have da0 : ac.eval (.tmp 48) = .agg #[.int .i64 c, .int .i64 s, .int .i64 p, .int .i64 m, .int .i64 k] := hF.2.2.2 19 48 _ rfl (hdep ⟨19, .data⟩ (by simp) rfl)
        have hA := hW.at (k := 1) rfl hi (.inr ⟨18, rfl, (hdep ⟨18, .chain⟩ (by simp) rfl)⟩)
        refine Rg.ex_call x rfl (Ord.wanted_of dg (by rw [f1]; decide) rfl rfl) (Rg.enter (args := #[.agg #[.int .i64 c, .int .i64 s, .int .i64 p, .int .i64 m, .int .i64 k]]) rfl rfl (by simp [da0]) ERC.out) (Calls.mono (RC.out _) ?_)
        rintro e w2 ⟨rfl, hB⟩
        exact ⟨rfl, hW.next (k := 1) rfl (by decide) hi (.inr ⟨18, rfl, (hdep ⟨18, .chain⟩ (by simp) rfl)⟩) (hA.later hB)⟩
      | 21, ho, hi, hdep =>
        cases ho
        have dg : ac.eval (.tmp 45) = .bool true := hF.2.2.2 16 45 _ rfl (hdep ⟨16, .guard⟩ (by simp) rfl)
        have da0 : ac.eval (.tmp 47) = .int .i64 y := hF.2.2.2 18 47 _ rfl (hdep ⟨18, .data⟩ (by simp) rfl)
        have da1 : ac.eval (.tmp 49) = .int .i64 y := hF.2.2.2 20 49 _ rfl (hdep ⟨20, .data⟩ (by simp) rfl)
        exact Ord.ex_value x rfl (Ord.wanted_of dg (by rw [f1]; decide) rfl rfl) (Rg.bin da0 da1 rfl (by simp [go_sem])) rfl (hW.keep (by decide))
      | 22, ho, hi, hdep =>
        cases ho
        have da0 : ac.eval (.tmp 45) = .bool true := hF.2.2.2 16 45 _ rfl (hdep ⟨16, .data⟩ (by simp) rfl)
        have da1 : ac.eval (.tmp 50) = .bool true := hF.2.2.2 21 50 _ rfl (hdep ⟨21, .data⟩ (by simp) rfl)
        exact Ord.ex_value x rfl rfl (Rg.pick_t da0 da1 rfl) rfl (hW.keep (by decide))
      | 23, ho, hi, hdep =>
        cases ho
        have da0 : ac.eval (.tmp 51) = .bool true := hF.2.2.2 22 51 _ rfl (hdep ⟨22, .data⟩ (by simp) rfl)
        exact Ord.ex_value x rfl rfl (Rg.mv da0 rfl) rfl (hW.keep (by decide))
      | 24, ho, hi, hdep =>
        cases ho
        have dg : ac.eval (.tmp 52) = .bool true := hF.2.2.2 23 52 _ rfl (hdep ⟨23, .guard⟩ (by simp) rfl)
        have da0 : ac.eval (.tmp 8) = .pointer (some ⟨w.heap.size, 0, none⟩) := hF.old 8 rfl
        obtain ⟨kq, hlo, hhi, hA⟩ := hW.range 2 2 (.inr ⟨20, rfl, (hcl 23 _ rfl (hdep ⟨23, .guard⟩ (by simp) rfl) ⟨20, .chain⟩ (by simp) rfl)⟩) (.inr ⟨26, rfl, (Rg.no_of (fun h => hcl 26 _ rfl (h) ⟨24, .data⟩ (by simp) rfl) hi)⟩)
        obtain ⟨c0, c1, c2, c3, c4⟩ := cells5 hA (b := w.heap.size) (.tail _ (.tail _ (.head _)))
        exact Ord.ex_value x rfl (Ord.wanted_of dg (by rw [f1]; decide) rfl rfl) (Rg.load da0 rfl (by simp [go_sem, c0, c1, c2, c3, c4])) rfl (hW.keep (by decide))
      | 25, ho, hi, hdep =>
        cases ho
        have dg : ac.eval (.tmp 52) = .bool true := hF.2.2.2 23 52 _ rfl (hdep ⟨23, .guard⟩ (by simp) rfl)
        have da0 : ac.eval (.tmp 4) = .int .i64 a4 := hF.old 4 rfl
        exact Ord.ex_value x rfl (Ord.wanted_of dg (by rw [f1]; decide) rfl rfl) (Rg.mv da0 rfl) rfl (hW.keep (by decide))
      | 26, ho, hi, hdep =>
        cases ho
        have dg : ac.eval (.tmp 52) = .bool true := hF.2.2.2 23 52 _ rfl (hdep ⟨23, .guard⟩ (by simp) rfl)
        have da0 : ac.eval (.tmp 53) = .agg #[.int .i64 c, .int .i64 s, .int .i64 p, .int .i64 m, .int .i64 k] := hF.2.2.2 24 53 _ rfl (hdep ⟨24, .data⟩ (by simp) rfl)
        have da1 : ac.eval (.tmp 54) = .int .i64 a4 := hF.2.2.2 25 54 _ rfl (hdep ⟨25, .data⟩ (by simp) rfl)
        have hA := hW.at (k := 2) rfl hi (.inr ⟨20, rfl, (hcl 23 _ rfl (hdep ⟨23, .chain⟩ (by simp) rfl) ⟨20, .chain⟩ (by simp) rfl)⟩)
        refine Rg.ex_call x rfl (Ord.wanted_of dg (by rw [f1]; decide) rfl rfl) (Rg.enter (args := #[.agg #[.int .i64 c, .int .i64 s, .int .i64 p, .int .i64 m, .int .i64 k], .int .i64 a4]) rfl rfl (by simp [da0, da1]) ESX.out) (Calls.mono (SX.out _) ?_)
        rintro e w2 ⟨rfl, hB⟩
        exact ⟨rfl, hW.next (k := 2) rfl (by decide) hi (.inr ⟨20, rfl, (hcl 23 _ rfl (hdep ⟨23, .chain⟩ (by simp) rfl) ⟨20, .chain⟩ (by simp) rfl)⟩) (hA.later hB)⟩
      | 27, ho, hi, hdep =>
        cases ho
        have dg : ac.eval (.tmp 52) = .bool true := hF.2.2.2 23 52 _ rfl (hdep ⟨23, .guard⟩ (by simp) rfl)
        have da0 : ac.eval (.tmp 8) = .pointer (some ⟨w.heap.size, 0, none⟩) := hF.old 8 rfl
        obtain ⟨kq, hlo, hhi, hA⟩ := hW.range 2 3 (.inr ⟨20, rfl, (hcl 23 _ rfl (hdep ⟨23, .guard⟩ (by simp) rfl) ⟨20, .chain⟩ (by simp) rfl)⟩) (.inr ⟨29, rfl, (Rg.no_of (fun h => hcl 29 _ rfl (h) ⟨27, .data⟩ (by simp) rfl) hi)⟩)
        obtain ⟨c0, c1, c2, c3, c4⟩ := cells5 hA (b := w.heap.size) (.tail _ (.tail _ (.head _)))
        exact Ord.ex_value x rfl (Ord.wanted_of dg (by rw [f1]; decide) rfl rfl) (Rg.load da0 rfl (by simp [go_sem, c0, c1, c2, c3, c4])) rfl (hW.keep (by decide))
      | 28, ho, hi, hdep =>
        cases ho
        have dg : ac.eval (.tmp 52) = .bool true := hF.2.2.2 23 52 _ rfl (hdep ⟨23, .guard⟩ (by simp) rfl)
        have da0 : ac.eval (.tmp 4) = .int .i64 a4 := hF.old 4 rfl
        exact Ord.ex_value x rfl (Ord.wanted_of dg (by rw [f1]; decide) rfl rfl) (Rg.mv da0 rfl) rfl (hW.keep (by decide))
      | 29, ho, hi, hdep =>
        cases ho
        have dg : ac.eval (.tmp 52) = .bool true := hF.2.2.2 23 52 _ rfl (hdep ⟨23, .guard⟩ (by simp) rfl)
        have da0 : ac.eval (.tmp 56) = .agg #[.int .i64 c, .int .i64 s, .int .i64 p, .int .i64 m, .int .i64 k] := hF.2.2.2 27 56 _ rfl (hdep ⟨27, .data⟩ (by simp) rfl)
        have da1 : ac.eval (.tmp 57) = .int .i64 a4 := hF.2.2.2 28 57 _ rfl (hdep ⟨28, .data⟩ (by simp) rfl)
        have hA := hW.at (k := 3) rfl hi (.inr ⟨26, rfl, (hdep ⟨26, .chain⟩ (by simp) rfl)⟩)
        refine Rg.ex_call x rfl (Ord.wanted_of dg (by rw [f1]; decide) rfl rfl) (Rg.enter (args := #[.agg #[.int .i64 c, .int .i64 s, .int .i64 p, .int .i64 m, .int .i64 k], .int .i64 a4]) rfl rfl (by simp [da0, da1]) ERS.out) (Calls.mono (RS.out _) ?_)
        rintro e w2 ⟨rfl, hB⟩
        exact ⟨rfl, hW.next (k := 3) rfl (by decide) hi (.inr ⟨26, rfl, (hdep ⟨26, .chain⟩ (by simp) rfl)⟩) (hA.later hB)⟩
      | 30, ho, hi, hdep =>
        cases ho
        have dg : ac.eval (.tmp 52) = .bool true := hF.2.2.2 23 52 _ rfl (hdep ⟨23, .guard⟩ (by simp) rfl)
        have da0 : ac.eval (.tmp 55) = .int .i64 z := hF.2.2.2 26 55 _ rfl (hdep ⟨26, .data⟩ (by simp) rfl)
        have da1 : ac.eval (.tmp 58) = .int .i64 z := hF.2.2.2 29 58 _ rfl (hdep ⟨29, .data⟩ (by simp) rfl)
        exact Ord.ex_value x rfl (Ord.wanted_of dg (by rw [f1]; decide) rfl rfl) (Rg.bin da0 da1 rfl (by simp [go_sem])) rfl (hW.keep (by decide))
      | 31, ho, hi, hdep =>
        cases ho
        have da0 : ac.eval (.tmp 52) = .bool true := hF.2.2.2 23 52 _ rfl (hdep ⟨23, .data⟩ (by simp) rfl)
        have da1 : ac.eval (.tmp 59) = .bool true := hF.2.2.2 30 59 _ rfl (hdep ⟨30, .data⟩ (by simp) rfl)
        exact Ord.ex_value x rfl rfl (Rg.pick_t da0 da1 rfl) rfl (hW.keep (by decide))
      | 32, ho, hi, hdep =>
        cases ho
        have da0 : ac.eval (.tmp 60) = .bool true := hF.2.2.2 31 60 _ rfl (hdep ⟨31, .data⟩ (by simp) rfl)
        exact Ord.ex_value x rfl rfl (Rg.mv da0 rfl) rfl (hW.keep (by decide))
      | 33, ho, hi, hdep =>
        cases ho
        have dg : ac.eval (.tmp 61) = .bool true := hF.2.2.2 32 61 _ rfl (hdep ⟨32, .guard⟩ (by simp) rfl)
        have hA := hW.at (k := 4) rfl hi (.inr ⟨29, rfl, (hcl 32 _ rfl (hdep ⟨32, .chain⟩ (by simp) rfl) ⟨29, .chain⟩ (by simp) rfl)⟩)
        refine Rg.ex_call x rfl (Ord.wanted_of dg (by rw [f1]; decide) rfl rfl) (Rg.enter (args := #[]) rfl rfl (by simp) EAW.out) (Calls.mono (AW.out _) ?_)
        rintro e w2 ⟨rfl, hB⟩
        exact ⟨rfl, hW.next (k := 4) rfl (by decide) hi (.inr ⟨29, rfl, (hcl 32 _ rfl (hdep ⟨32, .chain⟩ (by simp) rfl) ⟨29, .chain⟩ (by simp) rfl)⟩) (hA.later hB)⟩
      | 34, ho, hi, hdep =>
        cases ho
        have da0 : ac.eval (.tmp 61) = .bool true := hF.2.2.2 32 61 _ rfl (hdep ⟨32, .data⟩ (by simp) rfl)
        have da1 : ac.eval (.tmp 62) = .bool true := hF.2.2.2 33 62 _ rfl (hdep ⟨33, .data⟩ (by simp) rfl)
        exact Ord.ex_value x rfl rfl (Rg.pick_t da0 da1 rfl) rfl (hW.keep (by decide))
      | 35, ho, hi, hdep =>
        cases ho
        have da0 : ac.eval (.tmp 63) = .bool true := hF.2.2.2 34 63 _ rfl (hdep ⟨34, .data⟩ (by simp) rfl)
        exact Ord.ex_value x rfl rfl (Rg.asg da0 rfl) rfl (hW.keep (by decide))
    case refine_2 =>
      intro x w' hW
      have hw := hidden hW.last.below
      clear hW
      simp only [Ord.puts, Ord.prs]
      go_simp
      go_wp2
      go_ret
      exact ⟨rfl, hw.out⟩
    case refine_3 => exact Rg.StM.first O2.out.drew

theorem contract (H : Type) (enc : TypeId × Value → H) (W : World) (base : Nat) (args : Array Value) (ds gs : List (DataW H)) (before : List MemPlace)
    (hval : ∀ (j : Nat) t v, Try.f5.params[j]? = some t → args[j]? = some v → Value.okWide Try.prog W .any base t v)
    (hW : DataW.Whole enc Try.prog Try.f5.params.toList Rows.cwndOpensSpec.vars false W args.toList ds gs before)
    (hsz0 : (DataW.weightsEach Try.prog (Try.f5.params.toList ++ Rows.cwndOpensSpec.plain.varTypes Try.prog) (ds ++ gs)).all (· ≤ reachBytes) = true) :
    Calls Try.prog 5 args W fun e W' => ∃ v, e = .returned v ∧ Rows.cwndOpensSpec.post enc Try.prog Try.f5 false true false false W args v W' := by
  have hW' := hW
  obtain ⟨p, q, hA0, hV, rfl, hfz, hnd⟩ := hW
  have hA : DataW.TrodAll enc Try.prog W 0 (fun _ => true) true Try.f5.params.toList args.toList ds p := hA0
  have hsz := hsz0
  rw [Try.params5] at hA hval hsz
  obtain ⟨v0, vs0, d0, ds0, p0, q0, hargs, rfl, rfl, h0, r0⟩ := trodAll_cons hA
  obtain ⟨v1, vs1, d1, ds1, p1, q1, rfl, rfl, rfl, h1, r1⟩ := trodAll_cons r0
  obtain ⟨v2, vs2, d2, ds2, p2, q2, rfl, rfl, rfl, h2, r2⟩ := trodAll_cons r1
  obtain ⟨v3, vs3, d3, ds3, p3, q3, rfl, rfl, rfl, h3, r3⟩ := trodAll_cons r2
  obtain ⟨v4, vs4, d4, ds4, p4, q4, rfl, rfl, rfl, h4, r4⟩ := trodAll_cons r3
  obtain ⟨rfl, rfl, rfl⟩ := trodAll_nil r4
  obtain rfl : args = #[v0, v1, v2, v3, v4] := by cases args; simp_all
  obtain ⟨rfl, rfl⟩ := trodVars_none hV
  obtain ⟨a0, rfl, rfl, rfl, w0⟩ := open_int Try.underlying3 (hval 0 3 v0 rfl rfl) h0
  obtain ⟨a1, rfl, rfl, rfl, w1⟩ := open_int Try.underlying3 (hval 1 3 v1 rfl rfl) h1
  obtain ⟨a2, rfl, rfl, rfl, w2⟩ := open_int Try.underlying3 (hval 2 3 v2 rfl rfl) h2
  have k3 := h3
  have lt3 : ∀ x ∈ p3, x.block < W.heap.size := by obtain ⟨m, hm⟩ := k3; exact DataW.trod_lt m _ _ _ hm
  have sz3 : (d3.weights Try.prog 23).all (· ≤ reachBytes) = true := List.all_eq_true.2 fun m hm => List.all_eq_true.1 hsz m (DataW.weights_mem_each (j := 3) rfl rfl m hm)
  obtain ⟨q3, rfl, w3⟩ : ∃ q, v3 = .agg ((fun q : Int × Int × Int × Int × Int => [.int .i64 q.1, .int .i64 q.2.1, .int .i64 q.2.2.1, .int .i64 q.2.2.2.1, .int .i64 q.2.2.2.2]) q).toArray ∧ (fun q => (Lit.int .i64 q.1).wf = true ∧ (Lit.int .i64 q.2.1).wf = true ∧ (Lit.int .i64 q.2.2.1).wf = true ∧ (Lit.int .i64 q.2.2.2.1).wf = true ∧ (Lit.int .i64 q.2.2.2.2).wf = true) q := by
    obtain ⟨fuel, hf⟩ := h3
    exact Ag.one_arg kd23 Try.underlying23 (hval 3 23 v3 rfl rfl) hf sz3
  obtain ⟨a4, rfl, rfl, rfl, w4⟩ := open_int Try.underlying3 (hval 4 3 v4 rfl rfl) h4
  clear hA0 hsz0 hsz
  refine (walk a0 a1 a2 q3 a4 W w0 w1 w2 w3 w4).mono fun e W' ⟨he, bel⟩ => ?_
  subst he
  exact ⟨_, rfl, _, _, _, [], _, [], hW', trodAll_mk1 (shut_bool Try.underlying4 _), (trodAll_cons_mk (shut_int Try.underlying3 w0) (trodAll_cons_mk (shut_int Try.underlying3 w1) (trodAll_cons_mk (shut_int Try.underlying3 w2) (trodAll_cons_mk (Below.trod laidOut (by kernel_rfl) (of_decide_eq_true (by kernel_rfl)) k3 bel lt3) (trodAll_cons_mk (shut_int Try.underlying3 w4) trodAll_mk0))))), rfl, bel.frame _, fun h => by cases h⟩

noncomputable def laidWorld (os : Os) : World :=
  World.holding Try.prog os ⟨#[], #[], []⟩
theorem laid_met (os : Os) : laidMet Try.prog Rows.cwndOpensRow.laid ((laidWorld os).forCall (fun _ _ => 0) ⟨#[], #[.int .i64 0, .int .i64 0, .int .i64 0, .agg #[.int .i64 0, .int .i64 0, .int .i64 0, .int .i64 0, .int .i64 0], .int .i64 0], []⟩).memory :=
  laidMet_of_run' 8 (by kernel_rfl) (by kernel_rfl)
theorem reads (os : Os) {H : Type} (enc : TypeId × Value → H) : ∃ places, DataW.whole enc Try.prog ((laidWorld os).forCall (fun _ _ => 0) ⟨#[], #[.int .i64 0, .int .i64 0, .int .i64 0, .agg #[.int .i64 0, .int .i64 0, .int .i64 0, .int .i64 0, .int .i64 0], .int .i64 0], []⟩).memory Try.f5.params.toList Rows.cwndOpensSpec.vars false #[Value.int .i64 0, Value.int .i64 0, Value.int .i64 0, Value.agg #[.int .i64 0, .int .i64 0, .int .i64 0, .int .i64 0, .int .i64 0], Value.int .i64 0].toList 8 = some ([.lit (.int .i64 0), .lit (.int .i64 0), .lit (.int .i64 0), .agg [.lit (.int .i64 0), .lit (.int .i64 0), .lit (.int .i64 0), .lit (.int .i64 0), .lit (.int .i64 0)], .lit (.int .i64 0)], [], places) :=
  ⟨[], by kernel_rfl⟩

set_option maxRecDepth 100000 in
theorem lifted (os : Os) (started : os.Started) (H : Type) (enc : TypeId × Value → H) (F : Stop.Interp) :
    ReturnsInHanded {} Try.checked os 5 .any ((OpenSpec.ofChange Rows.cwndOpensSpec).preRow enc Try.prog Try.f5 Rows.cwndOpensRow.domain false Rows.cwndOpensRow.laid) (((OpenSpec.ofChange Rows.cwndOpensSpec).at F).post enc Try.prog Try.f5 false true false false) := by
  obtain ⟨places, hx⟩ := reads os enc
  refine returnsInHanded_of_row (C := Try.checked) (s := OpenSpec.ofChange Rows.cwndOpensSpec) own started (by kernel_rfl) Try.func5
    (witness_row_at (enc := enc) (C := Try.checked) false (laidWorld os) #[.int .i64 0, .int .i64 0, .int .i64 0, .agg #[.int .i64 0, .int .i64 0, .int .i64 0, .int .i64 0, .int .i64 0], .int .i64 0] rfl (by kernel_rfl) (by kernel_rfl) (by kernel_rfl)
      (OpenSpec.preRow_of_cond 8 hx (by kernel_rfl) (fun k hk => by cases hk) (by kernel_rfl) (laid_met os))) ?_
  intro W base args ds gs before hval hW _ hcond hsz hL _ _
  exact contract H enc W base args ds gs before hval hW hsz

theorem said : Rows.CwndOpensSaid :=
  OpenClaim.holds_of_cond 5 Try.f5 rfl rfl rfl rfl rfl rfl rfl ⟨rfl, rfl, rfl, rfl, rfl⟩ rfl rfl rfl rfl rfl (by kernel_rfl) Try.func5 (by kernel_rfl)
    (of_decide_eq_true (by kernel_rfl)) (by unfold Func.isWrapper; first | (rw [if_pos (by decide +kernel)]; kernel_rfl) | (rw [if_neg (by decide +kernel)]; exact ⟨rfl, rfl⟩))
    (fun os started H enc _ F => by rw [OpenClaim.pre_eq_preRow]; exact lifted os started H enc F)

/-- THE STATEMENT -/
theorem proved : Rows.CwndOpensSaid := said
#print axioms proved
end Go.Proofs.Ytaaghlgleofcgaa.cwndOpens
