/-
  What Runs tells of every row of pieces is what the document tells.
  Conditions: none but those of the statement.
-/
import Derived.Test.YteomkmbaoaahoaaRows
import Derived.WalkKit
import Derived.ProofKit
import Derived.OpenShut
import Derived.ShutString
import Derived.ChangeOld
import Derived.Below
import Derived.SizedLaws
import Derived.Deep.DeepHandedRow
import Derived.LaidLaws
import Derived.ChangeMaps5
import Derived.Test.YteomkmbaoaahoaaFrM
import Derived.Test.YteomkmbaoaahoaaFrL
import Derived.Test.YteomkmbaoaahoaaFrArgs
namespace Go.Proofs.Yteomkmbaoaahoaa.fragRuns
open Go.ChangeShapes Go.WideShapes Go.ChangeAt Go.RowKit
open Go.ChangeMaps (open_string shut_string)
set_option linter.unusedVariables false

theorem own : ownKnob Try.prog.godebug = none := by kernel_rfl
theorem laidOut : laidOutB Try.prog = true := by kernel_rfl

theorem few {vs : List Fr.V} {D : List (List Int)} {l i : Nat} {er : Int} (h : Fr.RO vs D l i er) : D.length ≤ vs.length := by
  rcases h with ⟨k, s, v, _, _, _, rfl, _⟩ | ⟨s, h, rfl, _⟩
  · exact Nat.zero_le _
  · rw [← List.take_length (l := vs)] at h
    exact (Fr.run_seg _ s (Nat.le_refl _) h).2.2.2.1
set_option maxHeartbeats 1000000 in

theorem walk (a0 : Option Addr) (len0 cap0 : Nat) (z0 : List Fr.V) (w : World) (w0 : Fr.Pcs w a0 len0 z0) (s0 : len0 ≤ cap0) :
    Calls Try.prog 5 #[.slice a0 len0 cap0] w fun e w' => e = .returned (.bool true) ∧ Below w.heap.size w w' := by
  have JN := Ba.hidden (Fr.runs w0 s0)
  have H0 := Ba.hidden w0
  have hn := w0.2.1
  have HL := Ba.hidden w0.1
  clear w0
  go_enter Try.func5, Try.ntmps5
  go_wp2_with fail
  refine Calls.mono JN.out ?_
  rintro e w1 ⟨v, ts, left, i, er, rfl, hj, hm, b1⟩
  have RJ := Ba.hidden (Fr.rruns (pcap := cap0) (H0.out.later b1))
  have HB1 := Ba.hidden b1
  have HJ := Ba.hidden hj
  have HM := Ba.hidden hm
  obtain ⟨a, c, rfl⟩ := hm.form
  clear hj hm b1 JN
  go_wp2_with fail
  refine Calls.mono RJ.out ?_
  rintro e w2 ⟨v', ts', left', i', er', rfl, hj', hm', b2⟩
  obtain ⟨e1, rfl, rfl, rfl⟩ := HJ.out.unique hj'
  have hlen : ts'.length = ts.length := by
    have := congrArg List.length e1
    rw [List.length_map, List.length_map] at this
    exact this.symm
  have hfew : ts.length ≤ 4398046511104 := by
    have := few HJ.out
    rw [List.length_map, HL.out] at this
    omega
  obtain ⟨a1, c1, e2, hr⟩ := (HM.out.later b2).txs hfew
  cases e2
  obtain ⟨a', c', rfl, hr'⟩ := hm'.txs (by omega)
  rw [hlen, ← e1] at hr'
  rw [hlen]
  have TX := Ba.hidden (Fr.rtexts (pcap := c) (qcap := c') hr hr')
  have HB2 := Ba.hidden (HB1.out.trans (b2.mono HB1.out.size))
  clear hj' hm' hr hr' b2 RJ HB1 HM HJ H0 e1 hlen
  generalize ts.length = L at *
  go_wp2_with fail
  refine Calls.mono TX.out ?_
  rintro e w3 ⟨rfl, b3⟩
  have HB3 := Ba.hidden (HB2.out.trans (b3.mono HB2.out.size))
  clear b3 HB2 TX
  go_wp2_with fail
  refine Calls.mono (Fr.alive _) ?_
  rintro e w4 ⟨rfl, b4⟩
  have HB4 := Ba.hidden (HB3.out.trans (b4.mono HB3.out.size))
  clear b4 HB3
  go_wp2
  go_ret
  exact ⟨rfl, HB4.out⟩

theorem contract (H : Type) (enc : TypeId × Value → H) (W : World) (base : Nat) (args : Array Value) (ds gs : List (DataW H)) (before : List MemPlace)
    (hval : ∀ (j : Nat) t v, Try.f5.params[j]? = some t → args[j]? = some v → Value.okWide Try.prog W .any base t v)
    (hW : DataW.Whole enc Try.prog Try.f5.params.toList Rows.fragRunsSpec.vars false W args.toList ds gs before)
    (hsz0 : (DataW.weightsEach Try.prog (Try.f5.params.toList ++ Rows.fragRunsSpec.plain.varTypes Try.prog) (ds ++ gs)).all (· ≤ reachBytes) = true) :
    Calls Try.prog 5 args W fun e W' => ∃ v, e = .returned v ∧ Rows.fragRunsSpec.post enc Try.prog Try.f5 false true false false W args v W' := by
  have hW' := hW
  obtain ⟨p, q, hA0, hV, rfl, hfz, hnd⟩ := hW
  have hA : DataW.TrodAll enc Try.prog W 0 (fun _ => true) true Try.f5.params.toList args.toList ds p := hA0
  have hsz := hsz0
  rw [Try.params5] at hA hval hsz
  obtain ⟨v0, vs0, d0, ds0, p0, q0, hargs, rfl, rfl, h0, r0⟩ := trodAll_cons hA
  obtain ⟨rfl, rfl, rfl⟩ := trodAll_nil r0
  obtain rfl : args = #[v0] := by cases args; simp_all
  obtain ⟨rfl, rfl⟩ := trodVars_none hV
  obtain ⟨a0, len0, cap0, rfl⟩ := okWide_slice Try.underlying23 (hval 0 23 v0 rfl rfl)
  have k0 := h0
  have lt0 : ∀ x ∈ p0, x.block < W.heap.size := by obtain ⟨m, hm⟩ := k0; exact DataW.trod_lt m _ _ _ hm
  have sz0 : (d0.weights Try.prog 23).all (· ≤ reachBytes) = true := List.all_eq_true.2 fun m hm => List.all_eq_true.1 hsz m (DataW.weights_mem_each (j := 0) rfl rfl m hm)
  obtain ⟨z0, w0, s0⟩ : ∃ z0, Fr.Pcs W a0 len0 z0 ∧ len0 ≤ cap0 := by
    obtain ⟨fuel, hf⟩ := h0
    obtain ⟨vs, h1, h2, h3⟩ := Fr.pcs_arg hf sz0
    exact ⟨vs, h1, h2⟩
  clear hA0 hsz0 hsz
  refine (walk a0 len0 cap0 z0 W w0 s0).mono fun e W' ⟨he, bel⟩ => ?_
  subst he
  exact ⟨_, rfl, _, _, _, [], _, [], hW', trodAll_mk1 (shut_bool Try.underlying4 _), (trodAll_cons_mk (Below.trod laidOut (by kernel_rfl) (of_decide_eq_true (by kernel_rfl)) k0 bel lt0) trodAll_mk0), rfl, bel.frame _, fun h => by cases h⟩

noncomputable def laidWorld (os : Os) : World :=
  World.holding Try.prog os ⟨#[], #[], []⟩
theorem laid_met (os : Os) : laidMet Try.prog Rows.fragRunsRow.laid ((laidWorld os).forCall (fun _ _ => 0) ⟨#[], #[.slice none 0 0], []⟩).memory :=
  laidMet_of_run' 8 (by kernel_rfl) (by kernel_rfl)
theorem reads (os : Os) {H : Type} (enc : TypeId × Value → H) : ∃ places, DataW.whole enc Try.prog ((laidWorld os).forCall (fun _ _ => 0) ⟨#[], #[.slice none 0 0], []⟩).memory Try.f5.params.toList Rows.fragRunsSpec.vars false #[Value.slice none 0 0].toList 8 = some ([.nil], [], places) :=
  ⟨[], by kernel_rfl⟩

set_option maxRecDepth 100000 in
theorem lifted (os : Os) (started : os.Started) (H : Type) (enc : TypeId × Value → H) (F : Stop.Interp) :
    ReturnsInHanded {} Try.checked os 5 .any ((OpenSpec.ofChange Rows.fragRunsSpec).preRow enc Try.prog Try.f5 Rows.fragRunsRow.domain false Rows.fragRunsRow.laid) (((OpenSpec.ofChange Rows.fragRunsSpec).at F).post enc Try.prog Try.f5 false true false false) := by
  obtain ⟨places, hx⟩ := reads os enc
  refine returnsInHanded_of_row (C := Try.checked) (s := OpenSpec.ofChange Rows.fragRunsSpec) own started (by kernel_rfl) Try.func5
    (witness_row_at (enc := enc) (C := Try.checked) false (laidWorld os) #[.slice none 0 0] rfl (by kernel_rfl) (by kernel_rfl) (by kernel_rfl)
      (OpenSpec.preRow_of_cond 8 hx (by kernel_rfl) (fun k hk => by cases hk) (by kernel_rfl) (laid_met os))) ?_
  intro W base args ds gs before hval hW _ hcond hsz hL _ _
  exact contract H enc W base args ds gs before hval hW hsz

theorem said : Rows.FragRunsSaid :=
  OpenClaim.holds_of_cond 5 Try.f5 rfl rfl rfl rfl rfl rfl rfl ⟨rfl, rfl, rfl, rfl, rfl⟩ rfl rfl rfl rfl rfl (by kernel_rfl) Try.func5 (by kernel_rfl)
    (of_decide_eq_true (by kernel_rfl)) (by unfold Func.isWrapper; first | (rw [if_pos (by decide +kernel)]; kernel_rfl) | (rw [if_neg (by decide +kernel)]; exact ⟨rfl, rfl⟩))
    (fun os started H enc _ F => by rw [OpenClaim.pre_eq_preRow]; exact lifted os started H enc F)

/-- THE STATEMENT -/
theorem proved : Rows.FragRunsSaid := said
#print axioms proved
end Go.Proofs.Yteomkmbaoaahoaa.fragRuns
