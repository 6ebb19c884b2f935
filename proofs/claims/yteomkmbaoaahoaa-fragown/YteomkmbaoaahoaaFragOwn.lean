/-
  Pieces share no memory with the message: what is changed in the message behind the call changes none of them.
  Conditions: none but those of the statement.
-/
import Derived.Test.YteomkmbaoaahoaaRows
import Derived.WalkKit
import Derived.ProofKit
import Derived.OpenShut
import Derived.ShutString
import Derived.ChangeOld
import Derived.Below
import Derived.SizedLaws
import Derived.Deep.DeepHandedRow
import Derived.LaidLaws
import Derived.ChangeMaps5
import Derived.Test.YteomkmbaoaahoaaFrN
import Derived.Test.YteomkmbaoaahoaaFrL
import Derived.Test.YteomkmbaoaahoaaFrArgs
namespace Go.Proofs.Yteomkmbaoaahoaa.fragOwn
open Go.ChangeShapes Go.WideShapes Go.ChangeAt Go.RowKit
open Go.ChangeMaps (open_string shut_string)
set_option linter.unusedVariables false

theorem own : ownKnob Try.prog.godebug = none := by kernel_rfl
theorem laidOut : laidOutB Try.prog = true := by kernel_rfl

set_option maxHeartbeats 2000000 in

theorem walk (a0 : Option Addr) (len0 cap0 : Nat) (z0 : List Int) (a1 : Int) (w : World) (w0 : Fr.Row w a0 len0 z0) (s0 : len0 ≤ cap0 ∧ cap0 ≤ 140737488351232 ∧ (a0 = none → len0 = 0 ∧ cap0 = 0)) (w1 : (Lit.int .i64 a1).wf = true) :
    Calls Try.prog 8 #[.slice a0 len0 cap0, .int .i64 a1] w fun e w' => e = .returned (.bool true) ∧ Below w.heap.size w w' := by
  have h0 : len0 ≤ 140737488355328 := w0.2.2.1
  have hzl : z0.length = len0 := w0.1
  obtain ⟨vs, er, hvl, C1, C2⟩ := Fr.cuts (N := a1) (a := a0) (cap := cap0) h0 hzl s0.1
  obtain ⟨g, vc, wc, hrun, hM, bc, hg1, hg2⟩ := Fr.own_copy (cap := cap0) w0 s0.2.2
  have HC1 := Ba.hidden C1
  have HC2 := Ba.hidden C2
  have H0 := Ba.hidden w0
  have HR := Ba.hidden hrun
  have HM := Ba.hidden hM
  have HBC := Ba.hidden bc
  clear C1 C2 w0 hrun hM bc
  go_enter Try.func8, Try.ntmps8
  go_wp2_with (at_builtin; refine Rg.wpList_app rfl _ _ _ rfl rfl rfl HR.out ?_; clear HR)
  obtain ⟨a', c', e, hrow, hlc, _⟩ := HM.out.row
  rw [hzl] at e hrow hlc
  cases e
  have CU := Ba.hidden (HC1.out wc _ _ hrow hlc)
  have HRW := Ba.hidden hrow
  clear hrow HC1
  go_wp2_with fail
  refine Calls.mono CU.out ?_
  rintro e w1 ⟨v, ps, rfl, hp, hv, b1⟩
  have HB1 := Ba.hidden (HBC.out.trans (b1.mono HBC.out.size))
  have RC := Ba.hidden (HC2.out w1 (H0.out.later HB1.out))
  have HP := Ba.hidden hp
  have HM1 := Ba.hidden (HM.out.later b1)
  have HRW1 := Ba.hidden (HRW.out.later b1)
  have hs1 := b1.size
  clear hp b1 CU HC2 HM HRW HBC
  go_wp2_with fail
  refine Calls.mono RC.out ?_
  rintro e w2 ⟨v', qs, rfl, hq, hv', b2⟩
  have HB2 := Ba.hidden (HB1.out.trans (b2.mono HB1.out.size))
  have hcv := (HRW1.out.later b2).conv vc
  have hcv' := (H0.out.later HB2.out).conv cap0
  have HP2 := Ba.hidden (HP.out.later b2)
  have HQ2 := Ba.hidden hq
  have HM2 : Hid (Fr.Any8 w.heap.size w2 g len0 vc) := ⟨z0, hzl, by have := (HM1.out.later b2).1; rwa [hzl] at this⟩
  have HV := Ba.hidden hv
  have HV' := Ba.hidden hv'
  have hs2 := b2.size
  clear hq b2 RC HP HM1 HRW1 HB1 H0 hv hv'
  generalize strOfNums z0 = S at *
  have hl1 : ps.length = vs.length := by rw [← HV.out, List.length_map]
  have hl2 : qs.length = vs.length := by rw [← HV'.out, List.length_map]
  obtain ⟨pa, pc, rfl, _, _⟩ := HP2.out.row (by omega)
  obtain ⟨qa, qc, rfl, _, _⟩ := HQ2.out.row (by omega)
  go_wp2_with fail
  go_loopw [38] (fun i wr => ∃ k : Nat, k ≤ len0 ∧ i = .int .i64 k ∧ Hid (Fr.Any8 w.heap.size wr g len0 vc) ∧ Hid (Ba.Only [g] w2 wr)) (fun i _ => len0 - (intOf i).toNat)
  case atStart => exact ⟨0, Nat.zero_le _, rfl, HM2.out, Ba.Only.refl _ _⟩
  case round =>
    obtain ⟨k, hk, rfl, hM, hO⟩ := hrel
    rcases Nat.lt_or_ge k len0 with hlt | hge
    · obtain ⟨y, c0, f0⟩ := hM.out.cell hlt
      have hgs : g < wr.heap.size := by have := hO.out.size; omega
      have FIN : Hid (∀ Y : Int, ∃ k' : Nat, k' ≤ len0 ∧ Value.int .i64 ((k : Int) + 1) = .int .i64 k' ∧ Hid (Fr.Any8 w.heap.size (wr.setCell ⟨g, k, none⟩ (.int .u8 Y)) g len0 vc) ∧ Hid (Ba.Only [g] w2 (wr.setCell ⟨g, k, none⟩ (.int .u8 Y)))) := fun Y => ⟨k + 1, by omega, by go_num, hM.out.set k Y, hO.out.then (Ba.Only.setCell wr (p := ⟨g, k, none⟩) (by simp) _)⟩
      clear hM hO
      go_wp2
      go_roundw
      case rel => exact FIN.out _
      case measure => simp [intOf]; omega
    · obtain rfl : k = len0 := by omega
      have hp3 := HP2.out.stay hO.out (by simpa using hg2)
      have hq3 := HQ2.out.stay hO.out (by simp; omega)
      obtain ⟨pa', pc', e1, hp4, _⟩ := hp3.row (by omega)
      cases e1
      obtain ⟨qa', qc', e1, hq4, _⟩ := hq3.row (by omega)
      cases e1
      rw [HV.out, hl1] at hp4
      rw [HV'.out, hl2] at hq4
      have SA := Ba.hidden (Fr.rsame (pcap := pc) (qcap := qc) hp4 hq4)
      have HB3 := Ba.hidden (HB2.out.trans (hO.out.below HB2.out.size (by simpa using hg1)))
      clear hp3 hq3 hp4 hq4 hM hO HP2 HQ2 HV HV' hl1 hl2
      generalize vs.length = L at *
      go_wp2_with fail
      refine Calls.mono SA.out ?_
      rintro e w3 ⟨rfl, b3⟩
      have HB4 := Ba.hidden (HB3.out.trans (b3.mono HB3.out.size))
      clear b3 SA HB3
      go_wp2_with fail
      refine Calls.mono (Fr.alive _) ?_
      rintro e w4 ⟨rfl, b4⟩
      have HB5 := Ba.hidden (HB4.out.trans (b4.mono HB4.out.size))
      clear b4 HB4
      go_wp2
      go_ret
      exact ⟨rfl, HB5.out⟩

theorem contract (H : Type) (enc : TypeId × Value → H) (W : World) (base : Nat) (args : Array Value) (ds gs : List (DataW H)) (before : List MemPlace)
    (hval : ∀ (j : Nat) t v, Try.f8.params[j]? = some t → args[j]? = some v → Value.okWide Try.prog W .any base t v)
    (hW : DataW.Whole enc Try.prog Try.f8.params.toList Rows.fragOwnSpec.vars false W args.toList ds gs before)
    (hsz0 : (DataW.weightsEach Try.prog (Try.f8.params.toList ++ Rows.fragOwnSpec.plain.varTypes Try.prog) (ds ++ gs)).all (· ≤ reachBytes) = true) :
    Calls Try.prog 8 args W fun e W' => ∃ v, e = .returned v ∧ Rows.fragOwnSpec.post enc Try.prog Try.f8 false true false false W args v W' := by
  have hW' := hW
  obtain ⟨p, q, hA0, hV, rfl, hfz, hnd⟩ := hW
  have hA : DataW.TrodAll enc Try.prog W 0 (fun _ => true) true Try.f8.params.toList args.toList ds p := hA0
  have hsz := hsz0
  rw [Try.params8] at hA hval hsz
  obtain ⟨v0, vs0, d0, ds0, p0, q0, hargs, rfl, rfl, h0, r0⟩ := trodAll_cons hA
  obtain ⟨v1, vs1, d1, ds1, p1, q1, rfl, rfl, rfl, h1, r1⟩ := trodAll_cons r0
  obtain ⟨rfl, rfl, rfl⟩ := trodAll_nil r1
  obtain rfl : args = #[v0, v1] := by cases args; simp_all
  obtain ⟨rfl, rfl⟩ := trodVars_none hV
  obtain ⟨a0, len0, cap0, rfl⟩ := okWide_slice Try.underlying22 (hval 0 22 v0 rfl rfl)
  have k0 := h0
  have lt0 : ∀ x ∈ p0, x.block < W.heap.size := by obtain ⟨m, hm⟩ := k0; exact DataW.trod_lt m _ _ _ hm
  have sz0 : (d0.weights Try.prog 22).all (· ≤ reachBytes) = true := List.all_eq_true.2 fun m hm => List.all_eq_true.1 hsz m (DataW.weights_mem_each (j := 0) rfl rfl m hm)
  obtain ⟨z0, w0, s0⟩ : ∃ z0, Fr.Row W a0 len0 z0 ∧ len0 ≤ cap0 ∧ cap0 ≤ 140737488351232 ∧ (a0 = none → len0 = 0 ∧ cap0 = 0) := by
    obtain ⟨fuel, hf⟩ := h0
    exact Fr.row_arg hf sz0
  obtain ⟨a1, rfl, rfl, rfl, w1⟩ := open_int Try.underlying3 (hval 1 3 v1 rfl rfl) h1
  clear hA0 hsz0 hsz
  refine (walk a0 len0 cap0 z0 a1 W w0 s0 w1).mono fun e W' ⟨he, bel⟩ => ?_
  subst he
  exact ⟨_, rfl, _, _, _, [], _, [], hW', trodAll_mk1 (shut_bool Try.underlying4 _), (trodAll_cons_mk (Below.trod laidOut (by kernel_rfl) (of_decide_eq_true (by kernel_rfl)) k0 bel lt0) (trodAll_cons_mk (shut_int Try.underlying3 w1) trodAll_mk0)), rfl, bel.frame _, fun h => by cases h⟩

noncomputable def laidWorld (os : Os) : World :=
  World.holding Try.prog os ⟨#[], #[], []⟩
theorem laid_met (os : Os) : laidMet Try.prog Rows.fragOwnRow.laid ((laidWorld os).forCall (fun _ _ => 0) ⟨#[], #[.slice none 0 0, .int .i64 0], []⟩).memory :=
  laidMet_of_run' 8 (by kernel_rfl) (by kernel_rfl)
theorem reads (os : Os) {H : Type} (enc : TypeId × Value → H) : ∃ places, DataW.whole enc Try.prog ((laidWorld os).forCall (fun _ _ => 0) ⟨#[], #[.slice none 0 0, .int .i64 0], []⟩).memory Try.f8.params.toList Rows.fragOwnSpec.vars false #[Value.slice none 0 0, Value.int .i64 0].toList 8 = some ([.nil, .lit (.int .i64 0)], [], places) :=
  ⟨[], by kernel_rfl⟩

set_option maxRecDepth 100000 in
theorem lifted (os : Os) (started : os.Started) (H : Type) (enc : TypeId × Value → H) (F : Stop.Interp) :
    ReturnsInHanded {} Try.checked os 8 .any ((OpenSpec.ofChange Rows.fragOwnSpec).preRow enc Try.prog Try.f8 Rows.fragOwnRow.domain false Rows.fragOwnRow.laid) (((OpenSpec.ofChange Rows.fragOwnSpec).at F).post enc Try.prog Try.f8 false true false false) := by
  obtain ⟨places, hx⟩ := reads os enc
  refine returnsInHanded_of_row (C := Try.checked) (s := OpenSpec.ofChange Rows.fragOwnSpec) own started (by kernel_rfl) Try.func8
    (witness_row_at (enc := enc) (C := Try.checked) false (laidWorld os) #[.slice none 0 0, .int .i64 0] rfl (by kernel_rfl) (by kernel_rfl) (by kernel_rfl)
      (OpenSpec.preRow_of_cond 8 hx (by kernel_rfl) (fun k hk => by cases hk) (by kernel_rfl) (laid_met os))) ?_
  intro W base args ds gs before hval hW _ hcond hsz hL _ _
  exact contract H enc W base args ds gs before hval hW hsz

theorem said : Rows.FragOwnSaid :=
  OpenClaim.holds_of_cond 8 Try.f8 rfl rfl rfl rfl rfl rfl rfl ⟨rfl, rfl, rfl, rfl, rfl⟩ rfl rfl rfl rfl rfl (by kernel_rfl) Try.func8 (by kernel_rfl)
    (of_decide_eq_true (by kernel_rfl)) (by unfold Func.isWrapper; first | (rw [if_pos (by decide +kernel)]; kernel_rfl) | (rw [if_neg (by decide +kernel)]; exact ⟨rfl, rfl⟩))
    (fun os started H enc _ F => by rw [OpenClaim.pre_eq_preRow]; exact lifted os started H enc F)

/-- THE STATEMENT -/
theorem proved : Rows.FragOwnSaid := said
#print axioms proved
end Go.Proofs.Yteomkmbaoaahoaa.fragOwn
