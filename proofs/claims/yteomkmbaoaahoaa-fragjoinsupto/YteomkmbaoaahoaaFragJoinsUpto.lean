/-
  What Join tells of every row of pieces is what the document tells.
  Conditions: those of the statement: what comes in holds together at most 1048576 values and letters.
-/
import Derived.Test.YteomkmbaoaahoaaRows
import Derived.WalkKit
import Derived.ProofKit
import Derived.OpenShut
import Derived.ShutString
import Derived.ChangeOld
import Derived.Below
import Derived.SizedLaws
import Derived.Deep.DeepHandedRow
import Derived.LaidLaws
import Derived.ChangeMaps5
import Derived.Test.YteomkmbaoaahoaaFrJ
import Derived.Test.YteomkmbaoaahoaaFrL
import Derived.Test.YteomkmbaoaahoaaFrArgs
namespace Go.Proofs.Yteomkmbaoaahoaa.fragJoins
open Go.ChangeShapes Go.WideShapes Go.ChangeAt Go.RowKit
open Go.ChangeMaps (open_string shut_string)
set_option linter.unusedVariables false

theorem own : ownKnob Try.prog.godebug = none := by kernel_rfl
theorem laidOut : laidOutB Try.prog = true := by kernel_rfl

set_option maxHeartbeats 1000000 in

theorem walk (a0 : Option Addr) (len0 cap0 : Nat) (z0 : List Fr.V) (w : World) (w0 : Fr.Pcs w a0 len0 z0) (s0 : len0 ≤ cap0 ∧ (Fr.flat z0).length ≤ 1048576) :
    Calls Try.prog 4 #[.slice a0 len0 cap0] w fun e w' => e = .returned (.bool true) ∧ Below w.heap.size w w' := by
  have JN := Ba.hidden (Fr.join (pcap := cap0) w0 (by omega))
  have H0 := Ba.hidden w0
  have HS := Ba.hidden s0.2
  clear w0
  go_enter Try.func4, Try.ntmps4
  go_wp2_with fail
  refine Calls.mono JN.out ?_
  rintro e w1 ⟨v, bs, i, er, rfl, hj, hm, b1⟩
  have RJ := Ba.hidden (Fr.rjoin (pcap := cap0) (H0.out.later b1) (by have := HS.out; omega))
  have HB1 := Ba.hidden b1
  have HJ := Ba.hidden hj
  have HM := Ba.hidden hm
  clear hj hm b1 JN
  go_wp2_with fail
  refine Calls.mono RJ.out ?_
  rintro e w2 ⟨v', bs', i', er', rfl, hj', hm', b2⟩
  obtain ⟨rfl, rfl, rfl⟩ := HJ.out.unique hj'
  obtain ⟨a, c, rfl, hr, _⟩ := (HM.out.later b2).row
  obtain ⟨a', c', rfl, hr', _⟩ := hm'.row
  have hcv := hr.conv c
  have hcv' := hr'.conv c'
  have HB2 := Ba.hidden (HB1.out.trans (b2.mono HB1.out.size))
  clear hj' hm' hr hr' b2 RJ HB1 HM HJ H0
  generalize strOfNums bs = S at *
  generalize bs.length = L at *
  go_wp2_with fail
  refine Calls.mono (Fr.alive _) ?_
  rintro e w4 ⟨rfl, b4⟩
  have HB4 := Ba.hidden (HB2.out.trans (b4.mono HB2.out.size))
  clear b4 HB2
  go_wp2
  go_ret
  exact ⟨rfl, HB4.out⟩

theorem contract (H : Type) (enc : TypeId × Value → H) (W : World) (base : Nat) (args : Array Value) (ds gs : List (DataW H)) (before : List MemPlace)
    (hval : ∀ (j : Nat) t v, Try.f4.params[j]? = some t → args[j]? = some v → Value.okWide Try.prog W .any base t v)
    (hW : DataW.Whole enc Try.prog Try.f4.params.toList Rows.fragJoinsSpec.vars false W args.toList ds gs before)
    (hsz0 : (DataW.weightsEach Try.prog (Try.f4.params.toList ++ Rows.fragJoinsSpec.plain.varTypes Try.prog) (ds ++ gs)).all (· ≤ reachBytes) = true) (hk : Rows.uptoSmall H (ds ++ gs) = true) :
    Calls Try.prog 4 args W fun e W' => ∃ v, e = .returned v ∧ Rows.fragJoinsSpec.post enc Try.prog Try.f4 false true false false W args v W' := by
  have hW' := hW
  obtain ⟨p, q, hA0, hV, rfl, hfz, hnd⟩ := hW
  have hA : DataW.TrodAll enc Try.prog W 0 (fun _ => true) true Try.f4.params.toList args.toList ds p := hA0
  have hsz := hsz0
  rw [Try.params4] at hA hval hsz
  obtain ⟨v0, vs0, d0, ds0, p0, q0, hargs, rfl, rfl, h0, r0⟩ := trodAll_cons hA
  obtain ⟨rfl, rfl, rfl⟩ := trodAll_nil r0
  obtain rfl : args = #[v0] := by cases args; simp_all
  obtain ⟨rfl, rfl⟩ := trodVars_none hV
  obtain ⟨a0, len0, cap0, rfl⟩ := okWide_slice Try.underlying23 (hval 0 23 v0 rfl rfl)
  have k0 := h0
  have lt0 : ∀ x ∈ p0, x.block < W.heap.size := by obtain ⟨m, hm⟩ := k0; exact DataW.trod_lt m _ _ _ hm
  have sz0 : (d0.weights Try.prog 23).all (· ≤ reachBytes) = true := List.all_eq_true.2 fun m hm => List.all_eq_true.1 hsz m (DataW.weights_mem_each (j := 0) rfl rfl m hm)
  have hbulk0 := of_decide_eq_true hk
  have hbulk0 : Rows.uptoBulk d0 ≤ 1048576 := by
    simp only [List.append_nil, Rows.uptoBulkAll] at hbulk0
    omega
  obtain ⟨z0, w0, s0⟩ : ∃ z0, Fr.Pcs W a0 len0 z0 ∧ len0 ≤ cap0 ∧ (Fr.flat z0).length ≤ 1048576 := by
    obtain ⟨fuel, hf⟩ := h0
    obtain ⟨vs, h1, h2, h3⟩ := Fr.pcs_arg hf sz0
    exact ⟨vs, h1, h2, Nat.le_trans h3 hbulk0⟩
  clear hA0 hsz0 hsz
  refine (walk a0 len0 cap0 z0 W w0 s0).mono fun e W' ⟨he, bel⟩ => ?_
  subst he
  exact ⟨_, rfl, _, _, _, [], _, [], hW', trodAll_mk1 (shut_bool Try.underlying4 _), (trodAll_cons_mk (Below.trod laidOut (by kernel_rfl) (of_decide_eq_true (by kernel_rfl)) k0 bel lt0) trodAll_mk0), rfl, bel.frame _, fun h => by cases h⟩

noncomputable def laidWorld (os : Os) : World :=
  World.holding Try.prog os ⟨#[], #[], []⟩
theorem laid_met (os : Os) : laidMet Try.prog Rows.fragJoinsUptoRow.laid ((laidWorld os).forCall (fun _ _ => 0) ⟨#[], #[.slice none 0 0], []⟩).memory :=
  laidMet_of_run' 8 (by kernel_rfl) (by kernel_rfl)
theorem reads (os : Os) {H : Type} (enc : TypeId × Value → H) : ∃ places, DataW.whole enc Try.prog ((laidWorld os).forCall (fun _ _ => 0) ⟨#[], #[.slice none 0 0], []⟩).memory Try.f4.params.toList Rows.fragJoinsSpec.vars false #[Value.slice none 0 0].toList 8 = some ([.nil], [], places) :=
  ⟨[], by kernel_rfl⟩

set_option maxRecDepth 100000 in
theorem lifted (os : Os) (started : os.Started) (H : Type) (enc : TypeId × Value → H) (F : Stop.Interp) :
    ReturnsInHanded {} Try.checked os 4 .any ((Rows.OpenSpec.upto Rows.fragJoinsSpec).preRow enc Try.prog Try.f4 Rows.fragJoinsUptoRow.domain false Rows.fragJoinsUptoRow.laid) (((Rows.OpenSpec.upto Rows.fragJoinsSpec).at F).post enc Try.prog Try.f4 false true false false) := by
  obtain ⟨places, hx⟩ := reads os enc
  refine returnsInHanded_of_row (C := Try.checked) (s := Rows.OpenSpec.upto Rows.fragJoinsSpec) own started (by kernel_rfl) Try.func4
    (witness_row_at (enc := enc) (C := Try.checked) false (laidWorld os) #[.slice none 0 0] rfl (by kernel_rfl) (by kernel_rfl) (by kernel_rfl)
      (OpenSpec.preRow_of_cond 8 hx (by kernel_rfl) (fun k hk => by cases hk; kernel_rfl) (by kernel_rfl) (laid_met os))) ?_
  intro W base args ds gs before hval hW _ hcond hsz hL _ _
  exact contract H enc W base args ds gs before hval hW hsz (hcond _ rfl)

theorem said : Rows.FragJoinsUptoSaid :=
  OpenClaim.holds_of_cond 4 Try.f4 rfl rfl rfl rfl rfl rfl rfl ⟨rfl, rfl, rfl, rfl, rfl⟩ rfl rfl rfl rfl rfl (by kernel_rfl) Try.func4 (by kernel_rfl)
    (of_decide_eq_true (by kernel_rfl)) (by unfold Func.isWrapper; first | (rw [if_pos (by decide +kernel)]; kernel_rfl) | (rw [if_neg (by decide +kernel)]; exact ⟨rfl, rfl⟩))
    (fun os started H enc _ F => by rw [OpenClaim.pre_eq_preRow]; exact lifted os started H enc F)

/-- THE STATEMENT -/
theorem proved : Rows.FragJoinsUptoSaid := said
#print axioms proved
end Go.Proofs.Yteomkmbaoaahoaa.fragJoins
