/-
  What CwndDoubles says of every call is true: a full window in slow start that is acknowledged packet by packet is twice as great then (P12.8). Conditions: none.
-/
import Derived.Test.YtaaghlgleofcgaaRows
import Derived.WalkKit
import Derived.ProofKit
import Derived.OpenShut
import Derived.ShutString
import Derived.ChangeOld
import Derived.Below
import Derived.SizedLaws
import Derived.Deep.DeepHandedRow
import Derived.LaidLaws
import Derived.ChangeMaps5
import Derived.Test.YtaaghlgleofcgaaCwH
import Derived.Test.YtaaghlgleofcgaaAg
namespace Go.Proofs.Ytaaghlgleofcgaa.cwndDoubles
open Go.ChangeShapes Go.WideShapes Go.ChangeAt Go.RowKit
open Go.ChangeMaps (open_string shut_string)
set_option linter.unusedVariables false

theorem own : ownKnob Try.prog.godebug = none := by kernel_rfl
theorem laidOut : laidOutB Try.prog = true := by kernel_rfl

open Ba (hidden Has)
open Ow (Own)
open Cw
set_option maxRecDepth 20000 in
set_option maxHeartbeats 4000000 in

theorem walk (a0 : Int) (a1 : Int) (a2 : Int) (w : World) (w0 : (Lit.int .i64 a0).wf = true) (w1 : (Lit.int .i64 a1).wf = true) (w2 : (Lit.int .i64 a2).wf = true) :
    Calls Try.prog 7 #[.int .i64 a0, .int .i64 a1, .int .i64 a2] w fun e w' => e = .returned (.bool true) ∧ Below w.heap.size w w' := by
  have AW := hidden Cw.awake
  have A := hidden (openX a0 1073741824 a2)
  clear w0 w1 w2
  by_cases hm : 100 ≤ a0 ∧ a0 ≤ 1500
  · have hb : bndP a0 1073741824 := ⟨hm, by omega, by omega⟩
    have hS4 : 4 * a0 ≤ min (max a2 (4 * a0)) 1073741824 := by omega
    have hS5 : min (max a2 (4 * a0)) 1073741824 ≤ 1073741824 := by omega
    rw [show opV a0 1073741824 a2 = ((4 * a0, min (max a2 (4 * a0)) 1073741824, 0, a0, 1073741824), 0) by unfold opV; rw [if_pos hb]] at A
    unfold tr tv at A
    simp only at A
    generalize min (max a2 (4 * a0)) 1073741824 = S at A hS4 hS5
    clear hb
    by_cases hp : 1 ≤ a1 ∧ a1 ≤ 200
    · obtain ⟨u1, u2, u3⟩ := prod hp hm
      have hw1 : IntKind.i64.wrap (a1 * a0) = a1 * a0 := by rw [IntKind.wrap_i64]; omega
      have hw2 : IntKind.i64.wrap (2 * a1 * a0) = 2 * a1 * a0 := by rw [u3, IntKind.wrap_i64]; omega
      by_cases hq : S < 2 * a1 * a0
      · obtain ⟨hp1, hp2⟩ := hp
        clear u1 u2 u3 hw1
        go_enter Try.func7, Try.ntmps7
        go_wp2_with fail
        refine Calls.mono (AW.out _) ?_
        rintro e w1 ⟨rfl, hB⟩
        have O1 := hidden ((Own.refl w).later hB)
        clear hB
        go_wp2_with fail
        refine Calls.mono (A.out _) ?_
        rintro e w2 ⟨rfl, hB⟩
        have O2 := hidden (O1.out.later hB).below
        clear hB O1
        go_wp2
        go_ret
        exact ⟨rfl, O2.out.alloc O2.out.size _⟩
      · have ST : Hid (∀ (C : Int) (W : World), a0 ≤ C → C + a0 ≤ 2 * (a1 * a0) → Calls Try.prog 8 #[.agg #[.int .i64 C, .int .i64 S, .int .i64 0, .int .i64 a0, .int .i64 1073741824], .int .i64 a0, .bool true, .bool true] W fun e w' => e = .returned (.tuple #[.agg #[.int .i64 (C + a0), .int .i64 S, .int .i64 0, .int .i64 a0, .int .i64 1073741824], .int .i64 0]) ∧ Below W.heap.size W w') := fun C W h1 h2 => by
          have := ackX C S 0 a0 1073741824 a0 true true W
          rw [ack_slow hm h1 (by omega) (by omega) ⟨hS4, hS5⟩] at this
          exact this
        have HU := hidden (And.intro u1 (And.intro u2 u3))
        have HM := hidden hm
        have HQ := hidden hq
        obtain ⟨hp1, hp2⟩ := hp
        have hq' : 2 * a1 * a0 ≤ S := by omega
        clear u1 u2 u3 hq
        go_enter Try.func7, Try.ntmps7
        go_wp2_with fail
        refine Calls.mono (AW.out _) ?_
        rintro e w1 ⟨rfl, hB⟩
        have O1 := hidden ((Own.refl w).later hB)
        clear hB
        go_wp2_with fail
        refine Calls.mono (A.out _) ?_
        rintro e w2 ⟨rfl, hB⟩
        have O2 := hidden ((O1.out.later hB).alloc #[.int .i64 (a1 * a0), .int .i64 S, .int .i64 0, .int .i64 a0, .int .i64 1073741824] 23)
        clear hB O1
        go_wp2_with fail
        go_loopw [9] (fun i wr => ∃ q C : Int, 0 ≤ q ∧ q ≤ a1 ∧ i = .int .i64 q ∧ Hid (C = (a1 + q) * a0) ∧ Hid (Own w wr [(w2.heap.size, #[.int .i64 C, .int .i64 S, .int .i64 0, .int .i64 a0, .int .i64 1073741824], 23)])) (fun i _ => a1.toNat - (intOf i).toNat)
        case atStart => exact ⟨0, a1 * a0, by omega, by omega, rfl, hidden (by rw [Int.add_zero]), O2⟩
        case round =>
          obtain ⟨q, C, j1, j2, rfl, HC, HO⟩ := hrel
          obtain ⟨⟨c0, c1, c2, c3, c4⟩, f0, f1, f2, f3, f4⟩ := ans HO.out (b := w2.heap.size) (.head _)
          have hl := HO.out.lt (.head _)
          by_cases hq : q < a1
          · have HX : Hid (a0 ≤ C ∧ C + a0 ≤ 2 * (a1 * a0) ∧ C + a0 = (a1 + (q + 1)) * a0) := by
              obtain ⟨v1, v2, v3⟩ := more HM.out j1 hq
              have := HU.out
              have hC := HC.out
              rw [← hC] at v1 v2 v3
              refine ⟨by omega, v2, v3.symm⟩
            go_wp2_with fail
            refine Calls.mono (ST.out C _ HX.out.1 HX.out.2.1) ?_
            rintro e w3 ⟨rfl, hB⟩
            have P3 := hidden (HO.out.later hB)
            clear c0 c1 c2 c3 c4 f0 f1 f2 f3 f4 hl
            obtain ⟨⟨c0, c1, c2, c3, c4⟩, f0, f1, f2, f3, f4⟩ := ans P3.out (b := w2.heap.size) (.head _)
            have hl := P3.out.lt (.head _)
            clear hB
            go_wp2
            go_roundw
            case rel =>
              exact ⟨_, C + a0, by omega, by omega, rfl, hidden HX.out.2.2, (set5 P3.out (by simp) _ _ _ _ _).later ((Below.refl _ _).alloc (Nat.le_refl _) _)⟩
            case measure => simp [intOf]; omega
          · have hE : C = 2 * a1 * a0 := by
              rw [HC.out, show q = a1 by omega, Int.add_mul, HU.out.2.2]
              omega
            clear HC
            subst hE
            go_wp2
            go_ret
            exact ⟨rfl, HO.out.below⟩
    · by_cases h0 : a1 < 1
      · clear hp
        go_enter Try.func7, Try.ntmps7
        go_wp2_with fail
        refine Calls.mono (AW.out _) ?_
        rintro e w1 ⟨rfl, hB⟩
        have O1 := hidden ((Own.refl w).later hB)
        clear hB
        go_wp2_with fail
        refine Calls.mono (A.out _) ?_
        rintro e w2 ⟨rfl, hB⟩
        have O2 := hidden (O1.out.later hB).below
        clear hB O1
        go_wp2
        go_ret
        exact ⟨rfl, O2.out.alloc O2.out.size _⟩
      · have h1 : 200 < a1 := by omega
        have h2 : 1 ≤ a1 := by omega
        clear hp h0
        go_enter Try.func7, Try.ntmps7
        go_wp2_with fail
        refine Calls.mono (AW.out _) ?_
        rintro e w1 ⟨rfl, hB⟩
        have O1 := hidden ((Own.refl w).later hB)
        clear hB
        go_wp2_with fail
        refine Calls.mono (A.out _) ?_
        rintro e w2 ⟨rfl, hB⟩
        have O2 := hidden (O1.out.later hB).below
        clear hB O1
        go_wp2
        go_ret
        exact ⟨rfl, O2.out.alloc O2.out.size _⟩
  · rw [show opV a0 1073741824 a2 = ((0, 0, 0, 0, 0), 1) by unfold opV; rw [if_neg (fun e => hm e.1)]; rfl] at A
    unfold tr tv at A
    simp only at A
    clear hm
    go_enter Try.func7, Try.ntmps7
    go_wp2_with fail
    refine Calls.mono (AW.out _) ?_
    rintro e w1 ⟨rfl, hB⟩
    have O1 := hidden ((Own.refl w).later hB)
    clear hB
    go_wp2_with fail
    refine Calls.mono (A.out _) ?_
    rintro e w2 ⟨rfl, hB⟩
    have O2 := hidden (O1.out.later hB).below
    clear hB O1
    go_wp2
    go_ret
    exact ⟨rfl, O2.out.alloc O2.out.size _⟩

theorem contract (H : Type) (enc : TypeId × Value → H) (W : World) (base : Nat) (args : Array Value) (ds gs : List (DataW H)) (before : List MemPlace)
    (hval : ∀ (j : Nat) t v, Try.f7.params[j]? = some t → args[j]? = some v → Value.okWide Try.prog W .any base t v)
    (hW : DataW.Whole enc Try.prog Try.f7.params.toList Rows.cwndDoublesSpec.vars false W args.toList ds gs before)
    (hsz0 : (DataW.weightsEach Try.prog (Try.f7.params.toList ++ Rows.cwndDoublesSpec.plain.varTypes Try.prog) (ds ++ gs)).all (· ≤ reachBytes) = true) :
    Calls Try.prog 7 args W fun e W' => ∃ v, e = .returned v ∧ Rows.cwndDoublesSpec.post enc Try.prog Try.f7 false true false false W args v W' := by
  have hW' := hW
  obtain ⟨p, q, hA0, hV, rfl, hfz, hnd⟩ := hW
  have hA : DataW.TrodAll enc Try.prog W 0 (fun _ => true) true Try.f7.params.toList args.toList ds p := hA0
  have hsz := hsz0
  rw [Try.params7] at hA hval hsz
  obtain ⟨v0, vs0, d0, ds0, p0, q0, hargs, rfl, rfl, h0, r0⟩ := trodAll_cons hA
  obtain ⟨v1, vs1, d1, ds1, p1, q1, rfl, rfl, rfl, h1, r1⟩ := trodAll_cons r0
  obtain ⟨v2, vs2, d2, ds2, p2, q2, rfl, rfl, rfl, h2, r2⟩ := trodAll_cons r1
  obtain ⟨rfl, rfl, rfl⟩ := trodAll_nil r2
  obtain rfl : args = #[v0, v1, v2] := by cases args; simp_all
  obtain ⟨rfl, rfl⟩ := trodVars_none hV
  obtain ⟨a0, rfl, rfl, rfl, w0⟩ := open_int Try.underlying3 (hval 0 3 v0 rfl rfl) h0
  obtain ⟨a1, rfl, rfl, rfl, w1⟩ := open_int Try.underlying3 (hval 1 3 v1 rfl rfl) h1
  obtain ⟨a2, rfl, rfl, rfl, w2⟩ := open_int Try.underlying3 (hval 2 3 v2 rfl rfl) h2
  clear hA0 hsz0 hsz
  refine (walk a0 a1 a2 W w0 w1 w2).mono fun e W' ⟨he, bel⟩ => ?_
  subst he
  exact ⟨_, rfl, _, _, _, [], _, [], hW', trodAll_mk1 (shut_bool Try.underlying4 _), (trodAll_cons_mk (shut_int Try.underlying3 w0) (trodAll_cons_mk (shut_int Try.underlying3 w1) (trodAll_cons_mk (shut_int Try.underlying3 w2) trodAll_mk0))), rfl, bel.frame _, fun h => by cases h⟩

noncomputable def laidWorld (os : Os) : World :=
  World.holding Try.prog os ⟨#[], #[], []⟩
theorem laid_met (os : Os) : laidMet Try.prog Rows.cwndDoublesRow.laid ((laidWorld os).forCall (fun _ _ => 0) ⟨#[], #[.int .i64 0, .int .i64 0, .int .i64 0], []⟩).memory :=
  laidMet_of_run' 8 (by kernel_rfl) (by kernel_rfl)
theorem reads (os : Os) {H : Type} (enc : TypeId × Value → H) : ∃ places, DataW.whole enc Try.prog ((laidWorld os).forCall (fun _ _ => 0) ⟨#[], #[.int .i64 0, .int .i64 0, .int .i64 0], []⟩).memory Try.f7.params.toList Rows.cwndDoublesSpec.vars false #[Value.int .i64 0, Value.int .i64 0, Value.int .i64 0].toList 8 = some ([.lit (.int .i64 0), .lit (.int .i64 0), .lit (.int .i64 0)], [], places) :=
  ⟨[], by kernel_rfl⟩

set_option maxRecDepth 100000 in
theorem lifted (os : Os) (started : os.Started) (H : Type) (enc : TypeId × Value → H) (F : Stop.Interp) :
    ReturnsInHanded {} Try.checked os 7 .any ((OpenSpec.ofChange Rows.cwndDoublesSpec).preRow enc Try.prog Try.f7 Rows.cwndDoublesRow.domain false Rows.cwndDoublesRow.laid) (((OpenSpec.ofChange Rows.cwndDoublesSpec).at F).post enc Try.prog Try.f7 false true false false) := by
  obtain ⟨places, hx⟩ := reads os enc
  refine returnsInHanded_of_row (C := Try.checked) (s := OpenSpec.ofChange Rows.cwndDoublesSpec) own started (by kernel_rfl) Try.func7
    (witness_row_at (enc := enc) (C := Try.checked) false (laidWorld os) #[.int .i64 0, .int .i64 0, .int .i64 0] rfl (by kernel_rfl) (by kernel_rfl) (by kernel_rfl)
      (OpenSpec.preRow_of_cond 8 hx (by kernel_rfl) (fun k hk => by cases hk) (by kernel_rfl) (laid_met os))) ?_
  intro W base args ds gs before hval hW _ hcond hsz hL _ _
  exact contract H enc W base args ds gs before hval hW hsz

theorem said : Rows.CwndDoublesSaid :=
  OpenClaim.holds_of_cond 7 Try.f7 rfl rfl rfl rfl rfl rfl rfl ⟨rfl, rfl, rfl, rfl, rfl⟩ rfl rfl rfl rfl rfl (by kernel_rfl) Try.func7 (by kernel_rfl)
    (of_decide_eq_true (by kernel_rfl)) (by unfold Func.isWrapper; first | (rw [if_pos (by decide +kernel)]; kernel_rfl) | (rw [if_neg (by decide +kernel)]; exact ⟨rfl, rfl⟩))
    (fun os started H enc _ F => by rw [OpenClaim.pre_eq_preRow]; exact lifted os started H enc F)

/-- THE STATEMENT -/
theorem proved : Rows.CwndDoublesSaid := said
#print axioms proved
end Go.Proofs.Ytaaghlgleofcgaa.cwndDoubles
