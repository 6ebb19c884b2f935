/-
  What SplitShares says of every call is true: Share, Check, Left and Total answer as the document says, whatever shares, window and numbers come in (P14.1, P14.3, P14.4). Conditions: none.
-/
import Derived.Test.YtbnmcjajhcgcnaaRows
import Derived.WalkKit
import Derived.ProofKit
import Derived.OpenShut
import Derived.ShutString
import Derived.ChangeOld
import Derived.Below
import Derived.SizedLaws
import Derived.Deep.DeepHandedRow
import Derived.LaidLaws
import Derived.ChangeMaps5
import Derived.Test.YtbnmcjajhcgcnaaShF
import Derived.Test.YtbnmcjajhcgcnaaAg
namespace Go.Proofs.Ytbnmcjajhcgcnaa.splitShares
open Go.ChangeShapes Go.WideShapes Go.ChangeAt Go.RowKit
open Go.ChangeMaps (open_string shut_string)
set_option linter.unusedVariables false

theorem own : ownKnob Try.prog.godebug = none := by kernel_rfl
theorem laidOut : laidOutB Try.prog = true := by kernel_rfl

theorem kd23 : Ag.Kind Try.prog 23 3 (fun q : Int × Int × Int => [.int .i64 q.1, .int .i64 q.2.1, .int .i64 q.2.2]) (fun q => (Lit.int .i64 q.1).wf = true ∧ (Lit.int .i64 q.2.1).wf = true ∧ (Lit.int .i64 q.2.2).wf = true) := by
  refine ⟨by kernel_rfl, by decide, fun _ => rfl, fun {H enc W base held fuel cl x} h _ => ?_⟩
  obtain ⟨xs, n, _, _, hcl, hxl, hfield⟩ := DataW.trod_struct Try.underlying23 h
  rw [show Try.prog.cellsOf 23 = 3 by kernel_rfl] at hcl
  match cl, hcl with
  | [v0, v1, v2], _ =>
    match xs, hxl with
    | [y0, y1, y2], _ =>
      have g0 := hfield 0 _ rfl
      simp [show Try.prog.cellsOf 3 = 1 by kernel_rfl] at g0
      obtain ⟨n0, e0, _, w0⟩ := DataW.trod_int Try.underlying3 g0
      simp at e0
      subst e0
      have g1 := hfield 1 _ rfl
      simp [show Try.prog.cellsOf 3 = 1 by kernel_rfl] at g1
      obtain ⟨n1, e1, _, w1⟩ := DataW.trod_int Try.underlying3 g1
      simp at e1
      subst e1
      have g2 := hfield 2 _ rfl
      simp [show Try.prog.cellsOf 3 = 1 by kernel_rfl] at g2
      obtain ⟨n2, e2, _, w2⟩ := DataW.trod_int Try.underlying3 g2
      simp at e2
      subst e2
      exact ⟨(n0, n1, n2), rfl, w0, w1, w2⟩
open Ba (hidden Has)
open Ow (Own)
open Sh
set_option maxRecDepth 100000 in
set_option maxHeartbeats 4000000 in

theorem walk (q0 : Int × Int × Int) (a1 : Int) (a2 : Option Addr) (len2 cap2 : Nat) (z2 : List (Int)) (w : World) (w0 : (fun q => (Lit.int .i64 q.1).wf = true ∧ (Lit.int .i64 q.2.1).wf = true ∧ (Lit.int .i64 q.2.2).wf = true) q0) (w1 : (Lit.int .i64 a1).wf = true) (w2 : Ag.Rows (fun n : Int => [.int .i64 n]) (fun n => (Lit.int .i64 n).wf = true) 1 w a2 len2 z2) (s2 : len2 ≤ cap2 ∧ cap2 * Try.prog.bytesOf 3 ≤ 140737488351232 ∧ (a2 = none → len2 = 0 ∧ cap2 = 0)) :
    Calls Try.prog 3 #[.agg ((fun q : Int × Int × Int => [.int .i64 q.1, .int .i64 q.2.1, .int .i64 q.2.2]) q0).toArray, .int .i64 a1, .slice a2 len2 cap2] w fun e w' => e = .returned (.bool true) ∧ Below w.heap.size w w' := by
  obtain ⟨B, P, M⟩ := q0
  have SH := hidden (share B P M)
  have RS := hidden (rShare B P M)
  have LE : Hid (∀ X, Below w.heap.size w X → Calls Try.prog 10 #[.agg #[.int .i64 B, .int .i64 P, .int .i64 M], .int .i64 a1, .slice a2 len2 cap2] X fun e w' => RowO X w' e (lV B P M a1 z2) (lE B P M a1 z2)) := fun X hX => left (w2.later hX) B P M a1
  have RL : Hid (∀ X, Below w.heap.size w X → Calls Try.prog 11 #[.agg #[.int .i64 B, .int .i64 P, .int .i64 M], .int .i64 a1, .slice a2 len2 cap2] X fun e w' => RowO X w' e (lV B P M a1 z2) (lE B P M a1 z2)) := fun X hX => rLeft (w2.later hX) B P M a1
  have TO : Hid (∀ X, Below w.heap.size w X → Calls Try.prog 12 #[.slice a2 len2 cap2] X fun e w' => e = .returned (.tuple #[.int .i64 (toV z2), .int .i64 (toE z2)]) ∧ Below X.heap.size X w') := fun X hX => total (w2.later hX)
  have RT : Hid (∀ X, Below w.heap.size w X → Calls Try.prog 13 #[.slice a2 len2 cap2] X fun e w' => e = .returned (.tuple #[.int .i64 (toV z2), .int .i64 (toE z2)]) ∧ X = w') := fun X hX => rTotal (w2.later hX)
  have CK : Hid (∀ X, Below w.heap.size w X → Calls Try.prog 15 #[.agg #[.int .i64 B, .int .i64 P, .int .i64 M], .slice a2 len2 cap2] X fun e w' => e = .returned (.int .i64 (chk B P M z2)) ∧ Below X.heap.size X w') := fun X hX => check (w2.later hX) B P M
  have RC : Hid (∀ X, Below w.heap.size w X → Calls Try.prog 16 #[.agg #[.int .i64 B, .int .i64 P, .int .i64 M], .slice a2 len2 cap2] X fun e w' => e = .returned (.int .i64 (chk B P M z2)) ∧ Below X.heap.size X w') := fun X hX => rCheck (w2.later hX) B P M
  have AW := hidden Sh.awake
  have ESA : Hid (∀ (args : Array Value) (w : World), (callFunc 14 args).run Try.prog w = .ok (.enter 14 args) w) := enters_of Try.func14 (by kernel_rfl) rfl
  have ECK : Hid (∀ (args : Array Value) (w : World), (callFunc 15 args).run Try.prog w = .ok (.enter 15 args) w) := enters_of Try.func15 (by kernel_rfl) rfl
  have ERC : Hid (∀ (args : Array Value) (w : World), (callFunc 16 args).run Try.prog w = .ok (.enter 16 args) w) := enters_of Try.func16 (by kernel_rfl) rfl
  have EAW : Hid (∀ (args : Array Value) (w : World), (callFunc 17 args).run Try.prog w = .ok (.enter 17 args) w) := enters_of Try.func17 (by kernel_rfl) rfl
  have O := hidden ((Own.refl w).alloc #[.int .i64 B, .int .i64 P, .int .i64 M] 23)
  clear w0 w1 w2 s2
  generalize shV B P M = sv at *
  generalize shE B P M = se at *
  generalize lV B P M a1 z2 = L at *
  generalize lE B P M a1 z2 = le at *
  generalize toV z2 = tv at *
  generalize toE z2 = te at *
  generalize chk B P M z2 = c at *
  go_enter Try.func3, Try.ntmps3
  go_wp2_with fail
  refine Calls.mono (SH.out _) ?_
  rintro e w1 ⟨rfl, hB⟩
  have O1 := hidden (O.out.later hB)
  obtain ⟨c0, c1, c2⟩ := cells3 O1.out (.head _)
  clear hB O SH
  go_wp2_with fail
  refine Calls.mono (RS.out _) ?_
  rintro e w2 ⟨rfl, hB⟩
  have O2 := hidden (O1.out.later hB)
  clear hB O1 RS c0 c1 c2
  obtain ⟨c0, c1, c2⟩ := cells3 O2.out (.head _)
  go_wp2_with fail
  refine Calls.mono (LE.out _ O2.out.below) ?_
  rintro e w3 ⟨ax, kx, cx, rfl, hx, hB⟩
  have O3 := hidden (O2.out.later hB)
  have NX := hidden hx
  clear hB O2 LE c0 c1 c2 hx
  obtain ⟨c0, c1, c2⟩ := cells3 O3.out (.head _)
  go_wp2_with fail
  refine Calls.mono (RL.out _ O3.out.below) ?_
  rintro e w4 ⟨ay, ky, cy, rfl, hy, hB⟩
  have O4 := hidden (O3.out.later hB)
  have NX4 := hidden (NX.out.later hB)
  have NY := hidden hy
  clear hB O3 RL c0 c1 c2 hy NX
  go_wp2_with fail
  refine Calls.mono (TO.out _ O4.out.below) ?_
  rintro e w5 ⟨rfl, hB⟩
  have O5 := hidden (O4.out.later hB)
  have NX5 := hidden (NX4.out.later hB)
  have NY5 := hidden (NY.out.later hB)
  clear hB O4 TO NX4 NY
  go_wp2_with fail
  refine Calls.mono (RT.out _ O5.out.below) ?_
  rintro e w6 ⟨rfl, rfl⟩
  clear RT
  have SA : Hid (∀ X, Nu X ax kx L → Nu X ay ky L → Calls Try.prog 14 #[.slice ax kx cx, .slice ay ky cy] X fun e w' => e = .returned (.bool true) ∧ Below X.heap.size X w') := fun X h1 h2 => by
    have := same (cap := cx) (cap2 := cy) h1 h2
    rw [decide_eq_true rfl] at this
    exact this
  go_upto_region 7 with fail
  refine Ord.wp_region_ex0 (X := Unit) (by kernel_rfl) 93 (fun x => [(some 53, .int .i64 sv), (some 54, .int .i64 sv), (some 55, .bool true), (some 56, .bool true), (some 57, .int .i64 se), (some 58, .int .i64 se), (some 59, .bool true), (some 60, .bool true), (some 61, .bool true), (some 62, .slice ax kx cx), (some 63, .slice ay ky cy), (some 64, .bool true), (some 65, .bool true), (some 66, .bool true), (some 67, .int .i64 le), (some 68, .int .i64 le), (some 69, .bool true), (some 70, .bool true), (some 71, .bool true), (some 72, .int .i64 tv), (some 73, .int .i64 tv), (some 74, .bool true), (some 75, .bool true), (some 76, .bool true), (some 77, .int .i64 te), (some 78, .int .i64 te), (some 79, .bool true), (some 80, .bool true), (some 81, .bool true), (some 82, .agg #[.int .i64 B, .int .i64 P, .int .i64 M]), (some 83, .slice a2 len2 cap2), (some 84, .int .i64 c), (some 85, .agg #[.int .i64 B, .int .i64 P, .int .i64 M]), (some 86, .slice a2 len2 cap2), (some 87, .int .i64 c), (some 88, .bool true), (some 89, .bool true), (some 90, .bool true), (some 91, .bool true), (some 92, .bool true), (some 6, .bool true)]) [some 53, some 54, some 55, some 56, some 57, some 58, some 59, some 60, some 61, some 62, some 63, some 64, some 65, some 66, some 67, some 68, some 69, some 70, some 71, some 72, some 73, some 74, some 75, some 76, some 77, some 78, some 79, some 80, some 81, some 82, some 83, some 84, some 85, some 86, some 87, some 88, some 89, some 90, some 91, some 92, some 6] rfl (fun listed hsz hr => Ord.all_listedC (rank := [0, 1, 2, 3, 4, 5, 6, 7, 8, 9, 10, 11, 12, 13, 14, 15, 16, 17, 18, 19, 20, 21, 22, 23, 24, 25, 26, 27, 28, 29, 30, 31, 32, 33, 34, 35, 36, 37, 38, 39, 40]) (by kernel_rfl) hsz hr) (by rfl) (fun _ => rfl) (by kernel_rfl) (Rg.StM [11, 31, 34, 38] (fun _ _ w' => Own w w' [(w.heap.size, #[.int .i64 B, .int .i64 P, .int .i64 M], 23)] ∧ Nu w' ax kx L ∧ Nu w' ay ky L)) (fun _ _ _ _ hL h => h.ext (n := 41) (by decide) hL) ?_ ?_ () ?_
  case refine_1 =>
    intro x Lq iq oq ac w' ho hi hcl hdep hF hW
    have f1 : ac.tmps.size = 93 := hF.1
    match iq, ho, hi, hdep with
    | 0, ho, hi, hdep =>
      cases ho
      have da0 : ac.eval (.tmp 7) = .int .i64 sv := hF.old 7 rfl
      exact Ord.ex_value x rfl rfl (Rg.mv da0 rfl) rfl (hW.keep (by decide))
    | 1, ho, hi, hdep =>
      cases ho
      have da0 : ac.eval (.tmp 9) = .int .i64 sv := hF.old 9 rfl
      exact Ord.ex_value x rfl rfl (Rg.mv da0 rfl) rfl (hW.keep (by decide))
    | 2, ho, hi, hdep =>
      cases ho
      have da0 : ac.eval (.tmp 53) = .int .i64 sv := hF.2.2.2 0 53 _ rfl (hdep ⟨0, .data⟩ (by simp) rfl)
      have da1 : ac.eval (.tmp 54) = .int .i64 sv := hF.2.2.2 1 54 _ rfl (hdep ⟨1, .data⟩ (by simp) rfl)
      exact Ord.ex_value x rfl rfl (Rg.bin da0 da1 rfl (by simp [go_sem])) rfl (hW.keep (by decide))
    | 3, ho, hi, hdep =>
      cases ho
      have da0 : ac.eval (.tmp 55) = .bool true := hF.2.2.2 2 55 _ rfl (hdep ⟨2, .data⟩ (by simp) rfl)
      exact Ord.ex_value x rfl rfl (Rg.mv da0 rfl) rfl (hW.keep (by decide))
    | 4, ho, hi, hdep =>
      cases ho
      have dg : ac.eval (.tmp 56) = .bool true := hF.2.2.2 3 56 _ rfl (hdep ⟨3, .guard⟩ (by simp) rfl)
      have da0 : ac.eval (.tmp 8) = .int .i64 se := hF.old 8 rfl
      exact Ord.ex_value x rfl (Ord.wanted_of dg (by rw [f1]; decide) rfl rfl) (Rg.mv da0 rfl) rfl (hW.keep (by decide))
    | 5, ho, hi, hdep =>
      cases ho
      have dg : ac.eval (.tmp 56) = .bool true := hF.2.2.2 3 56 _ rfl (hdep ⟨3, .guard⟩ (by simp) rfl)
      have da0 : ac.eval (.tmp 10) = .int .i64 se := hF.old 10 rfl
      exact Ord.ex_value x rfl (Ord.wanted_of dg (by rw [f1]; decide) rfl rfl) (Rg.mv da0 rfl) rfl (hW.keep (by decide))
    | 6, ho, hi, hdep =>
      cases ho
      have dg : ac.eval (.tmp 56) = .bool true := hF.2.2.2 3 56 _ rfl (hdep ⟨3, .guard⟩ (by simp) rfl)
      have da0 : ac.eval (.tmp 57) = .int .i64 se := hF.2.2.2 4 57 _ rfl (hdep ⟨4, .data⟩ (by simp) rfl)
      have da1 : ac.eval (.tmp 58) = .int .i64 se := hF.2.2.2 5 58 _ rfl (hdep ⟨5, .data⟩ (by simp) rfl)
      exact Ord.ex_value x rfl (Ord.wanted_of dg (by rw [f1]; decide) rfl rfl) (Rg.bin da0 da1 rfl (by simp [go_sem])) rfl (hW.keep (by decide))
    | 7, ho, hi, hdep =>
      cases ho
      have da0 : ac.eval (.tmp 56) = .bool true := hF.2.2.2 3 56 _ rfl (hdep ⟨3, .data⟩ (by simp) rfl)
      have da1 : ac.eval (.tmp 59) = .bool true := hF.2.2.2 6 59 _ rfl (hdep ⟨6, .data⟩ (by simp) rfl)
      exact Ord.ex_value x rfl rfl (Rg.pick_t da0 da1 rfl) rfl (hW.keep (by decide))
    | 8, ho, hi, hdep =>
      cases ho
      have da0 : ac.eval (.tmp 60) = .bool true := hF.2.2.2 7 60 _ rfl (hdep ⟨7, .data⟩ (by simp) rfl)
      exact Ord.ex_value x rfl rfl (Rg.mv da0 rfl) rfl (hW.keep (by decide))
    | 9, ho, hi, hdep =>
      cases ho
      have dg : ac.eval (.tmp 61) = .bool true := hF.2.2.2 8 61 _ rfl (hdep ⟨8, .guard⟩ (by simp) rfl)
      have da0 : ac.eval (.tmp 11) = .slice ax kx cx := hF.old 11 rfl
      exact Ord.ex_value x rfl (Ord.wanted_of dg (by rw [f1]; decide) rfl rfl) (Rg.mv da0 rfl) rfl (hW.keep (by decide))
    | 10, ho, hi, hdep =>
      cases ho
      have dg : ac.eval (.tmp 61) = .bool true := hF.2.2.2 8 61 _ rfl (hdep ⟨8, .guard⟩ (by simp) rfl)
      have da0 : ac.eval (.tmp 13) = .slice ay ky cy := hF.old 13 rfl
      exact Ord.ex_value x rfl (Ord.wanted_of dg (by rw [f1]; decide) rfl rfl) (Rg.mv da0 rfl) rfl (hW.keep (by decide))
    | 11, ho, hi, hdep =>
      cases ho
      have dg : ac.eval (.tmp 61) = .bool true := hF.2.2.2 8 61 _ rfl (hdep ⟨8, .guard⟩ (by simp) rfl)
      have da0 : ac.eval (.tmp 62) = .slice ax kx cx := hF.2.2.2 9 62 _ rfl (hdep ⟨9, .data⟩ (by simp) rfl)
      have da1 : ac.eval (.tmp 63) = .slice ay ky cy := hF.2.2.2 10 63 _ rfl (hdep ⟨10, .data⟩ (by simp) rfl)
      have hA := hW.at (k := 0) rfl hi (.inl rfl)
      refine Rg.ex_call x rfl (Ord.wanted_of dg (by rw [f1]; decide) rfl rfl) (Rg.enter (args := #[.slice ax kx cx, .slice ay ky cy]) rfl rfl (by simp [da0, da1]) ESA.out) (Calls.mono (SA.out _ hA.2.1 hA.2.2) ?_)
      rintro e w2 ⟨rfl, hB⟩
      exact ⟨rfl, hW.next (k := 0) rfl (by decide) hi (.inl rfl) ⟨hA.1.later hB, hA.2.1.later hB, hA.2.2.later hB⟩⟩
    | 12, ho, hi, hdep =>
      cases ho
      have da0 : ac.eval (.tmp 61) = .bool true := hF.2.2.2 8 61 _ rfl (hdep ⟨8, .data⟩ (by simp) rfl)
      have da1 : ac.eval (.tmp 64) = .bool true := hF.2.2.2 11 64 _ rfl (hdep ⟨11, .data⟩ (by simp) rfl)
      exact Ord.ex_value x rfl rfl (Rg.pick_t da0 da1 rfl) rfl (hW.keep (by decide))
    | 13, ho, hi, hdep =>
      cases ho
      have da0 : ac.eval (.tmp 65) = .bool true := hF.2.2.2 12 65 _ rfl (hdep ⟨12, .data⟩ (by simp) rfl)
      exact Ord.ex_value x rfl rfl (Rg.mv da0 rfl) rfl (hW.keep (by decide))
    | 14, ho, hi, hdep =>
      cases ho
      have dg : ac.eval (.tmp 66) = .bool true := hF.2.2.2 13 66 _ rfl (hdep ⟨13, .guard⟩ (by simp) rfl)
      have da0 : ac.eval (.tmp 12) = .int .i64 le := hF.old 12 rfl
      exact Ord.ex_value x rfl (Ord.wanted_of dg (by rw [f1]; decide) rfl rfl) (Rg.mv da0 rfl) rfl (hW.keep (by decide))
    | 15, ho, hi, hdep =>
      cases ho
      have dg : ac.eval (.tmp 66) = .bool true := hF.2.2.2 13 66 _ rfl (hdep ⟨13, .guard⟩ (by simp) rfl)
      have da0 : ac.eval (.tmp 14) = .int .i64 le := hF.old 14 rfl
      exact Ord.ex_value x rfl (Ord.wanted_of dg (by rw [f1]; decide) rfl rfl) (Rg.mv da0 rfl) rfl (hW.keep (by decide))
    | 16, ho, hi, hdep =>
      cases ho
      have dg : ac.eval (.tmp 66) = .bool true := hF.2.2.2 13 66 _ rfl (hdep ⟨13, .guard⟩ (by simp) rfl)
      have da0 : ac.eval (.tmp 67) = .int .i64 le := hF.2.2.2 14 67 _ rfl (hdep ⟨14, .data⟩ (by simp) rfl)
      have da1 : ac.eval (.tmp 68) = .int .i64 le := hF.2.2.2 15 68 _ rfl (hdep ⟨15, .data⟩ (by simp) rfl)
      exact Ord.ex_value x rfl (Ord.wanted_of dg (by rw [f1]; decide) rfl rfl) (Rg.bin da0 da1 rfl (by simp [go_sem])) rfl (hW.keep (by decide))
    | 17, ho, hi, hdep =>
      cases ho
      have da0 : ac.eval (.tmp 66) = .bool true := hF.2.2.2 13 66 _ rfl (hdep ⟨13, .data⟩ (by simp) rfl)
      have da1 : ac.eval (.tmp 69) = .bool true := hF.2.2.2 16 69 _ rfl (hdep ⟨16, .data⟩ (by simp) rfl)
      exact Ord.ex_value x rfl rfl (Rg.pick_t da0 da1 rfl) rfl (hW.keep (by decide))
    | 18, ho, hi, hdep =>
      cases ho
      have da0 : ac.eval (.tmp 70) = .bool true := hF.2.2.2 17 70 _ rfl (hdep ⟨17, .data⟩ (by simp) rfl)
      exact Ord.ex_value x rfl rfl (Rg.mv da0 rfl) rfl (hW.keep (by decide))
    | 19, ho, hi, hdep =>
      cases ho
      have dg : ac.eval (.tmp 71) = .bool true := hF.2.2.2 18 71 _ rfl (hdep ⟨18, .guard⟩ (by simp) rfl)
      have da0 : ac.eval (.tmp 15) = .int .i64 tv := hF.old 15 rfl
      exact Ord.ex_value x rfl (Ord.wanted_of dg (by rw [f1]; decide) rfl rfl) (Rg.mv da0 rfl) rfl (hW.keep (by decide))
    | 20, ho, hi, hdep =>
      cases ho
      have dg : ac.eval (.tmp 71) = .bool true := hF.2.2.2 18 71 _ rfl (hdep ⟨18, .guard⟩ (by simp) rfl)
      have da0 : ac.eval (.tmp 17) = .int .i64 tv := hF.old 17 rfl
      exact Ord.ex_value x rfl (Ord.wanted_of dg (by rw [f1]; decide) rfl rfl) (Rg.mv da0 rfl) rfl (hW.keep (by decide))
    | 21, ho, hi, hdep =>
      cases ho
      have dg : ac.eval (.tmp 71) = .bool true := hF.2.2.2 18 71 _ rfl (hdep ⟨18, .guard⟩ (by simp) rfl)
      have da0 : ac.eval (.tmp 72) = .int .i64 tv := hF.2.2.2 19 72 _ rfl (hdep ⟨19, .data⟩ (by simp) rfl)
      have da1 : ac.eval (.tmp 73) = .int .i64 tv := hF.2.2.2 20 73 _ rfl (hdep ⟨20, .data⟩ (by simp) rfl)
      exact Ord.ex_value x rfl (Ord.wanted_of dg (by rw [f1]; decide) rfl rfl) (Rg.bin da0 da1 rfl (by simp [go_sem])) rfl (hW.keep (by decide))
    | 22, ho, hi, hdep =>
      cases ho
      have da0 : ac.eval (.tmp 71) = .bool true := hF.2.2.2 18 71 _ rfl (hdep ⟨18, .data⟩ (by simp) rfl)
      have da1 : ac.eval (.tmp 74) = .bool true := hF.2.2.2 21 74 _ rfl (hdep ⟨21, .data⟩ (by simp) rfl)
      exact Ord.ex_value x rfl rfl (Rg.pick_t da0 da1 rfl) rfl (hW.keep (by decide))
    | 23, ho, hi, hdep =>
      cases ho
      have da0 : ac.eval (.tmp 75) = .bool true := hF.2.2.2 22 75 _ rfl (hdep ⟨22, .data⟩ (by simp) rfl)
      exact Ord.ex_value x rfl rfl (Rg.mv da0 rfl) rfl (hW.keep (by decide))
    | 24, ho, hi, hdep =>
      cases ho
      have dg : ac.eval (.tmp 76) = .bool true := hF.2.2.2 23 76 _ rfl (hdep ⟨23, .guard⟩ (by simp) rfl)
      have da0 : ac.eval (.tmp 16) = .int .i64 te := hF.old 16 rfl
      exact Ord.ex_value x rfl (Ord.wanted_of dg (by rw [f1]; decide) rfl rfl) (Rg.mv da0 rfl) rfl (hW.keep (by decide))
    | 25, ho, hi, hdep =>
      cases ho
      have dg : ac.eval (.tmp 76) = .bool true := hF.2.2.2 23 76 _ rfl (hdep ⟨23, .guard⟩ (by simp) rfl)
      have da0 : ac.eval (.tmp 18) = .int .i64 te := hF.old 18 rfl
      exact Ord.ex_value x rfl (Ord.wanted_of dg (by rw [f1]; decide) rfl rfl) (Rg.mv da0 rfl) rfl (hW.keep (by decide))
    | 26, ho, hi, hdep =>
      cases ho
      have dg : ac.eval (.tmp 76) = .bool true := hF.2.2.2 23 76 _ rfl (hdep ⟨23, .guard⟩ (by simp) rfl)
      have da0 : ac.eval (.tmp 77) = .int .i64 te := hF.2.2.2 24 77 _ rfl (hdep ⟨24, .data⟩ (by simp) rfl)
      have da1 : ac.eval (.tmp 78) = .int .i64 te := hF.2.2.2 25 78 _ rfl (hdep ⟨25, .data⟩ (by simp) rfl)
      exact Ord.ex_value x rfl (Ord.wanted_of dg (by rw [f1]; decide) rfl rfl) (Rg.bin da0 da1 rfl (by simp [go_sem])) rfl (hW.keep (by decide))
    | 27, ho, hi, hdep =>
      cases ho
      have da0 : ac.eval (.tmp 76) = .bool true := hF.2.2.2 23 76 _ rfl (hdep ⟨23, .data⟩ (by simp) rfl)
      have da1 : ac.eval (.tmp 79) = .bool true := hF.2.2.2 26 79 _ rfl (hdep ⟨26, .data⟩ (by simp) rfl)
      exact Ord.ex_value x rfl rfl (Rg.pick_t da0 da1 rfl) rfl (hW.keep (by decide))
    | 28, ho, hi, hdep =>
      cases ho
      have da0 : ac.eval (.tmp 80) = .bool true := hF.2.2.2 27 80 _ rfl (hdep ⟨27, .data⟩ (by simp) rfl)
      exact Ord.ex_value x rfl rfl (Rg.mv da0 rfl) rfl (hW.keep (by decide))
    | 29, ho, hi, hdep =>
      cases ho
      have dg : ac.eval (.tmp 81) = .bool true := hF.2.2.2 28 81 _ rfl (hdep ⟨28, .guard⟩ (by simp) rfl)
      have da0 : ac.eval (.tmp 3) = .pointer (some ⟨w.heap.size, 0, none⟩) := hF.old 3 rfl
      obtain ⟨kq, hlo, hhi, hA⟩ := hW.range 1 1 (.inr ⟨11, rfl, (hcl 13 _ rfl (hcl 18 _ rfl (hcl 23 _ rfl (hcl 28 _ rfl (hdep ⟨28, .guard⟩ (by simp) rfl) ⟨23, .chain⟩ (by simp) rfl) ⟨18, .chain⟩ (by simp) rfl) ⟨13, .chain⟩ (by simp) rfl) ⟨11, .chain⟩ (by simp) rfl)⟩) (.inr ⟨31, rfl, (Rg.no_of (fun h => hcl 31 _ rfl (h) ⟨29, .data⟩ (by simp) rfl) hi)⟩)
      obtain ⟨c0, c1, c2⟩ := cells3 hA.1 (.head _)
      exact Ord.ex_value x rfl (Ord.wanted_of dg (by rw [f1]; decide) rfl rfl) (Rg.load da0 rfl (by simp [go_sem, c0, c1, c2])) rfl (hW.keep (by decide))
    | 30, ho, hi, hdep =>
      cases ho
      have dg : ac.eval (.tmp 81) = .bool true := hF.2.2.2 28 81 _ rfl (hdep ⟨28, .guard⟩ (by simp) rfl)
      have da0 : ac.eval (.tmp 2) = .slice a2 len2 cap2 := hF.old 2 rfl
      exact Ord.ex_value x rfl (Ord.wanted_of dg (by rw [f1]; decide) rfl rfl) (Rg.mv da0 rfl) rfl (hW.keep (by decide))
    | 31, ho, hi, hdep =>
      cases ho
      have dg : ac.eval (.tmp 81) = .bool true := hF.2.2.2 28 81 _ rfl (hdep ⟨28, .guard⟩ (by simp) rfl)
      have da0 : ac.eval (.tmp 82) = .agg #[.int .i64 B, .int .i64 P, .int .i64 M] := hF.2.2.2 29 82 _ rfl (hdep ⟨29, .data⟩ (by simp) rfl)
      have da1 : ac.eval (.tmp 83) = .slice a2 len2 cap2 := hF.2.2.2 30 83 _ rfl (hdep ⟨30, .data⟩ (by simp) rfl)
      have hA := hW.at (k := 1) rfl hi (.inr ⟨11, rfl, (hcl 13 _ rfl (hcl 18 _ rfl (hcl 23 _ rfl (hcl 28 _ rfl (hdep ⟨28, .chain⟩ (by simp) rfl) ⟨23, .chain⟩ (by simp) rfl) ⟨18, .chain⟩ (by simp) rfl) ⟨13, .chain⟩ (by simp) rfl) ⟨11, .chain⟩ (by simp) rfl)⟩)
      refine Rg.ex_call x rfl (Ord.wanted_of dg (by rw [f1]; decide) rfl rfl) (Rg.enter (args := #[.agg #[.int .i64 B, .int .i64 P, .int .i64 M], .slice a2 len2 cap2]) rfl rfl (by simp [da0, da1]) ECK.out) (Calls.mono (CK.out _ hA.1.below) ?_)
      rintro e w2 ⟨rfl, hB⟩
      exact ⟨rfl, hW.next (k := 1) rfl (by decide) hi (.inr ⟨11, rfl, (hcl 13 _ rfl (hcl 18 _ rfl (hcl 23 _ rfl (hcl 28 _ rfl (hdep ⟨28, .chain⟩ (by simp) rfl) ⟨23, .chain⟩ (by simp) rfl) ⟨18, .chain⟩ (by simp) rfl) ⟨13, .chain⟩ (by simp) rfl) ⟨11, .chain⟩ (by simp) rfl)⟩) ⟨hA.1.later hB, hA.2.1.later hB, hA.2.2.later hB⟩⟩
    | 32, ho, hi, hdep =>
      cases ho
      have dg : ac.eval (.tmp 81) = .bool true := hF.2.2.2 28 81 _ rfl (hdep ⟨28, .guard⟩ (by simp) rfl)
      have da0 : ac.eval (.tmp 3) = .pointer (some ⟨w.heap.size, 0, none⟩) := hF.old 3 rfl
      obtain ⟨kq, hlo, hhi, hA⟩ := hW.range 1 2 (.inr ⟨11, rfl, (hcl 13 _ rfl (hcl 18 _ rfl (hcl 23 _ rfl (hcl 28 _ rfl (hdep ⟨28, .guard⟩ (by simp) rfl) ⟨23, .chain⟩ (by simp) rfl) ⟨18, .chain⟩ (by simp) rfl) ⟨13, .chain⟩ (by simp) rfl) ⟨11, .chain⟩ (by simp) rfl)⟩) (.inr ⟨34, rfl, (Rg.no_of (fun h => hcl 34 _ rfl (h) ⟨32, .data⟩ (by simp) rfl) hi)⟩)
      obtain ⟨c0, c1, c2⟩ := cells3 hA.1 (.head _)
      exact Ord.ex_value x rfl (Ord.wanted_of dg (by rw [f1]; decide) rfl rfl) (Rg.load da0 rfl (by simp [go_sem, c0, c1, c2])) rfl (hW.keep (by decide))
    | 33, ho, hi, hdep =>
      cases ho
      have dg : ac.eval (.tmp 81) = .bool true := hF.2.2.2 28 81 _ rfl (hdep ⟨28, .guard⟩ (by simp) rfl)
      have da0 : ac.eval (.tmp 2) = .slice a2 len2 cap2 := hF.old 2 rfl
      exact Ord.ex_value x rfl (Ord.wanted_of dg (by rw [f1]; decide) rfl rfl) (Rg.mv da0 rfl) rfl (hW.keep (by decide))
    | 34, ho, hi, hdep =>
      cases ho
      have dg : ac.eval (.tmp 81) = .bool true := hF.2.2.2 28 81 _ rfl (hdep ⟨28, .guard⟩ (by simp) rfl)
      have da0 : ac.eval (.tmp 85) = .agg #[.int .i64 B, .int .i64 P, .int .i64 M] := hF.2.2.2 32 85 _ rfl (hdep ⟨32, .data⟩ (by simp) rfl)
      have da1 : ac.eval (.tmp 86) = .slice a2 len2 cap2 := hF.2.2.2 33 86 _ rfl (hdep ⟨33, .data⟩ (by simp) rfl)
      have hA := hW.at (k := 2) rfl hi (.inr ⟨31, rfl, (hdep ⟨31, .chain⟩ (by simp) rfl)⟩)
      refine Rg.ex_call x rfl (Ord.wanted_of dg (by rw [f1]; decide) rfl rfl) (Rg.enter (args := #[.agg #[.int .i64 B, .int .i64 P, .int .i64 M], .slice a2 len2 cap2]) rfl rfl (by simp [da0, da1]) ERC.out) (Calls.mono (RC.out _ hA.1.below) ?_)
      rintro e w2 ⟨rfl, hB⟩
      exact ⟨rfl, hW.next (k := 2) rfl (by decide) hi (.inr ⟨31, rfl, (hdep ⟨31, .chain⟩ (by simp) rfl)⟩) ⟨hA.1.later hB, hA.2.1.later hB, hA.2.2.later hB⟩⟩
    | 35, ho, hi, hdep =>
      cases ho
      have dg : ac.eval (.tmp 81) = .bool true := hF.2.2.2 28 81 _ rfl (hdep ⟨28, .guard⟩ (by simp) rfl)
      have da0 : ac.eval (.tmp 84) = .int .i64 c := hF.2.2.2 31 84 _ rfl (hdep ⟨31, .data⟩ (by simp) rfl)
      have da1 : ac.eval (.tmp 87) = .int .i64 c := hF.2.2.2 34 87 _ rfl (hdep ⟨34, .data⟩ (by simp) rfl)
      exact Ord.ex_value x rfl (Ord.wanted_of dg (by rw [f1]; decide) rfl rfl) (Rg.bin da0 da1 rfl (by simp [go_sem])) rfl (hW.keep (by decide))
    | 36, ho, hi, hdep =>
      cases ho
      have da0 : ac.eval (.tmp 81) = .bool true := hF.2.2.2 28 81 _ rfl (hdep ⟨28, .data⟩ (by simp) rfl)
      have da1 : ac.eval (.tmp 88) = .bool true := hF.2.2.2 35 88 _ rfl (hdep ⟨35, .data⟩ (by simp) rfl)
      exact Ord.ex_value x rfl rfl (Rg.pick_t da0 da1 rfl) rfl (hW.keep (by decide))
    | 37, ho, hi, hdep =>
      cases ho
      have da0 : ac.eval (.tmp 89) = .bool true := hF.2.2.2 36 89 _ rfl (hdep ⟨36, .data⟩ (by simp) rfl)
      exact Ord.ex_value x rfl rfl (Rg.mv da0 rfl) rfl (hW.keep (by decide))
    | 38, ho, hi, hdep =>
      cases ho
      have dg : ac.eval (.tmp 90) = .bool true := hF.2.2.2 37 90 _ rfl (hdep ⟨37, .guard⟩ (by simp) rfl)
      have hA := hW.at (k := 3) rfl hi (.inr ⟨34, rfl, (hcl 37 _ rfl (hdep ⟨37, .chain⟩ (by simp) rfl) ⟨34, .chain⟩ (by simp) rfl)⟩)
      refine Rg.ex_call x rfl (Ord.wanted_of dg (by rw [f1]; decide) rfl rfl) (Rg.enter (args := #[]) rfl rfl (by simp) EAW.out) (Calls.mono (AW.out _) ?_)
      rintro e w2 ⟨rfl, hB⟩
      exact ⟨rfl, hW.next (k := 3) rfl (by decide) hi (.inr ⟨34, rfl, (hcl 37 _ rfl (hdep ⟨37, .chain⟩ (by simp) rfl) ⟨34, .chain⟩ (by simp) rfl)⟩) ⟨hA.1.later hB, hA.2.1.later hB, hA.2.2.later hB⟩⟩
    | 39, ho, hi, hdep =>
      cases ho
      have da0 : ac.eval (.tmp 90) = .bool true := hF.2.2.2 37 90 _ rfl (hdep ⟨37, .data⟩ (by simp) rfl)
      have da1 : ac.eval (.tmp 91) = .bool true := hF.2.2.2 38 91 _ rfl (hdep ⟨38, .data⟩ (by simp) rfl)
      exact Ord.ex_value x rfl rfl (Rg.pick_t da0 da1 rfl) rfl (hW.keep (by decide))
    | 40, ho, hi, hdep =>
      cases ho
      have da0 : ac.eval (.tmp 92) = .bool true := hF.2.2.2 39 92 _ rfl (hdep ⟨39, .data⟩ (by simp) rfl)
      exact Ord.ex_value x rfl rfl (Rg.asg da0 rfl) rfl (hW.keep (by decide))
  case refine_2 =>
    intro x w' hW
    have HB := hidden (hW.last).1.below
    clear hW
    simp only [Ord.puts, Ord.prs]
    go_simp
    go_wp2
    go_ret
    exact ⟨rfl, HB.out⟩
  case refine_3 => exact Rg.StM.first ⟨O5.out.drew, NX5.out.later (below_drew (Below.refl _ _)), NY5.out.later (below_drew (Below.refl _ _))⟩

theorem contract (H : Type) (enc : TypeId × Value → H) (W : World) (base : Nat) (args : Array Value) (ds gs : List (DataW H)) (before : List MemPlace)
    (hval : ∀ (j : Nat) t v, Try.f3.params[j]? = some t → args[j]? = some v → Value.okWide Try.prog W .any base t v)
    (hW : DataW.Whole enc Try.prog Try.f3.params.toList Rows.splitSharesSpec.vars false W args.toList ds gs before)
    (hsz0 : (DataW.weightsEach Try.prog (Try.f3.params.toList ++ Rows.splitSharesSpec.plain.varTypes Try.prog) (ds ++ gs)).all (· ≤ reachBytes) = true) :
    Calls Try.prog 3 args W fun e W' => ∃ v, e = .returned v ∧ Rows.splitSharesSpec.post enc Try.prog Try.f3 false true false false W args v W' := by
  have hW' := hW
  obtain ⟨p, q, hA0, hV, rfl, hfz, hnd⟩ := hW
  have hA : DataW.TrodAll enc Try.prog W 0 (fun _ => true) true Try.f3.params.toList args.toList ds p := hA0
  have hsz := hsz0
  rw [Try.params3] at hA hval hsz
  obtain ⟨v0, vs0, d0, ds0, p0, q0, hargs, rfl, rfl, h0, r0⟩ := trodAll_cons hA
  obtain ⟨v1, vs1, d1, ds1, p1, q1, rfl, rfl, rfl, h1, r1⟩ := trodAll_cons r0
  obtain ⟨v2, vs2, d2, ds2, p2, q2, rfl, rfl, rfl, h2, r2⟩ := trodAll_cons r1
  obtain ⟨rfl, rfl, rfl⟩ := trodAll_nil r2
  obtain rfl : args = #[v0, v1, v2] := by cases args; simp_all
  obtain ⟨rfl, rfl⟩ := trodVars_none hV
  have k0 := h0
  have lt0 : ∀ x ∈ p0, x.block < W.heap.size := by obtain ⟨m, hm⟩ := k0; exact DataW.trod_lt m _ _ _ hm
  have sz0 : (d0.weights Try.prog 23).all (· ≤ reachBytes) = true := List.all_eq_true.2 fun m hm => List.all_eq_true.1 hsz m (DataW.weights_mem_each (j := 0) rfl rfl m hm)
  obtain ⟨q0, rfl, w0⟩ : ∃ q, v0 = .agg ((fun q : Int × Int × Int => [.int .i64 q.1, .int .i64 q.2.1, .int .i64 q.2.2]) q).toArray ∧ (fun q => (Lit.int .i64 q.1).wf = true ∧ (Lit.int .i64 q.2.1).wf = true ∧ (Lit.int .i64 q.2.2).wf = true) q := by
    obtain ⟨fuel, hf⟩ := h0
    exact Ag.one_arg kd23 Try.underlying23 (hval 0 23 v0 rfl rfl) hf sz0
  obtain ⟨a1, rfl, rfl, rfl, w1⟩ := open_int Try.underlying3 (hval 1 3 v1 rfl rfl) h1
  obtain ⟨a2, len2, cap2, rfl⟩ := okWide_slice Try.underlying24 (hval 2 24 v2 rfl rfl)
  have k2 := h2
  have lt2 : ∀ x ∈ p2, x.block < W.heap.size := by obtain ⟨m, hm⟩ := k2; exact DataW.trod_lt m _ _ _ hm
  have sz2 : (d2.weights Try.prog 24).all (· ≤ reachBytes) = true := List.all_eq_true.2 fun m hm => List.all_eq_true.1 hsz m (DataW.weights_mem_each (j := 2) rfl rfl m hm)
  obtain ⟨z2, w2, s2⟩ : ∃ zs, Ag.Rows (fun n : Int => [.int .i64 n]) (fun n => (Lit.int .i64 n).wf = true) 1 W a2 len2 zs ∧ len2 ≤ cap2 ∧ cap2 * Try.prog.bytesOf 3 ≤ 140737488351232 ∧ (a2 = none → len2 = 0 ∧ cap2 = 0) := by
    obtain ⟨fuel, hf⟩ := h2
    exact Ag.rows_arg (Ag.kind_int Try.underlying3 (by kernel_rfl)) Try.underlying24 (Nat.le_of_ble_eq_true (by kernel_rfl)) hf sz2
  clear hA0 hsz0 hsz
  refine (walk q0 a1 a2 len2 cap2 z2 W w0 w1 w2 s2).mono fun e W' ⟨he, bel⟩ => ?_
  subst he
  exact ⟨_, rfl, _, _, _, [], _, [], hW', trodAll_mk1 (shut_bool Try.underlying4 _), (trodAll_cons_mk (Below.trod laidOut (by kernel_rfl) (of_decide_eq_true (by kernel_rfl)) k0 bel lt0) (trodAll_cons_mk (shut_int Try.underlying3 w1) (trodAll_cons_mk (Below.trod laidOut (by kernel_rfl) (of_decide_eq_true (by kernel_rfl)) k2 bel lt2) trodAll_mk0))), rfl, bel.frame _, fun h => by cases h⟩

noncomputable def laidWorld (os : Os) : World :=
  World.holding Try.prog os ⟨#[], #[], []⟩
theorem laid_met (os : Os) : laidMet Try.prog Rows.splitSharesRow.laid ((laidWorld os).forCall (fun _ _ => 0) ⟨#[], #[.agg #[.int .i64 0, .int .i64 0, .int .i64 0], .int .i64 0, .slice none 0 0], []⟩).memory :=
  laidMet_of_run' 8 (by kernel_rfl) (by kernel_rfl)
theorem reads (os : Os) {H : Type} (enc : TypeId × Value → H) : ∃ places, DataW.whole enc Try.prog ((laidWorld os).forCall (fun _ _ => 0) ⟨#[], #[.agg #[.int .i64 0, .int .i64 0, .int .i64 0], .int .i64 0, .slice none 0 0], []⟩).memory Try.f3.params.toList Rows.splitSharesSpec.vars false #[Value.agg #[.int .i64 0, .int .i64 0, .int .i64 0], Value.int .i64 0, Value.slice none 0 0].toList 8 = some ([.agg [.lit (.int .i64 0), .lit (.int .i64 0), .lit (.int .i64 0)], .lit (.int .i64 0), .nil], [], places) :=
  ⟨[], by kernel_rfl⟩

set_option maxRecDepth 100000 in
theorem lifted (os : Os) (started : os.Started) (H : Type) (enc : TypeId × Value → H) (F : Stop.Interp) :
    ReturnsInHanded {} Try.checked os 3 .any ((OpenSpec.ofChange Rows.splitSharesSpec).preRow enc Try.prog Try.f3 Rows.splitSharesRow.domain false Rows.splitSharesRow.laid) (((OpenSpec.ofChange Rows.splitSharesSpec).at F).post enc Try.prog Try.f3 false true false false) := by
  obtain ⟨places, hx⟩ := reads os enc
  refine returnsInHanded_of_row (C := Try.checked) (s := OpenSpec.ofChange Rows.splitSharesSpec) own started (by kernel_rfl) Try.func3
    (witness_row_at (enc := enc) (C := Try.checked) false (laidWorld os) #[.agg #[.int .i64 0, .int .i64 0, .int .i64 0], .int .i64 0, .slice none 0 0] rfl (by kernel_rfl) (by kernel_rfl) (by kernel_rfl)
      (OpenSpec.preRow_of_cond 8 hx (by kernel_rfl) (fun k hk => by cases hk) (by kernel_rfl) (laid_met os))) ?_
  intro W base args ds gs before hval hW _ hcond hsz hL _ _
  exact contract H enc W base args ds gs before hval hW hsz

theorem said : Rows.SplitSharesSaid :=
  OpenClaim.holds_of_cond 3 Try.f3 rfl rfl rfl rfl rfl rfl rfl ⟨rfl, rfl, rfl, rfl, rfl⟩ rfl rfl rfl rfl rfl (by kernel_rfl) Try.func3 (by kernel_rfl)
    (of_decide_eq_true (by kernel_rfl)) (by unfold Func.isWrapper; first | (rw [if_pos (by decide +kernel)]; kernel_rfl) | (rw [if_neg (by decide +kernel)]; exact ⟨rfl, rfl⟩))
    (fun os started H enc _ F => by rw [OpenClaim.pre_eq_preRow]; exact lifted os started H enc F)

/-- THE STATEMENT -/
theorem proved : Rows.SplitSharesSaid := said
#print axioms proved
end Go.Proofs.Ytbnmcjajhcgcnaa.splitShares
