/-
  For every two lists of parameters and every type the law ParamFinds returns true: which Body Find tells, whether there is one, and whether Same calls two lists alike are the document's; a list is the same as itself (P5.3). Conditions: as the statement has them.
-/
import Derived.Test.YtallpnjjeikamaaRows
import Derived.WalkKit
import Derived.ProofKit
import Derived.OpenShut
import Derived.ShutString
import Derived.ChangeOld
import Derived.Below
import Derived.SizedLaws
import Derived.Deep.DeepHandedRow
import Derived.LaidLaws
import Derived.ChangeMaps5
import Derived.Test.YtallpnjjeikamaaParG
import Derived.Test.YtallpnjjeikamaaParArgs
namespace Go.Proofs.Ytallpnjjeikamaa.paramFinds
open Go.ChangeShapes Go.WideShapes Go.ChangeAt Go.RowKit
open Go.ChangeMaps (open_string shut_string)
set_option linter.unusedVariables false

theorem own : ownKnob Try.prog.godebug = none := by kernel_rfl
theorem laidOut : laidOutB Try.prog = true := by kernel_rfl

theorem got_conv {base : Nat} {w : World} {ps : List Par.Prm} {kind : Int} {v : Value} {t : Bool} (h : Par.Got base w ps kind v t) :
    ∃ va vl vc, v = .slice va vl vc ∧ (t = (Par.found ps kind).isSome) ∧ ∀ w2, Below w.heap.size w w2 → (convert 23 9 (.slice va vl vc)).run Try.prog w2 = .ok (.string (strOfNums (((Par.found ps kind).map fun p => p.2.2.2.2).getD []))) w2 := by
  unfold Par.Got at h
  cases hf : Par.found ps kind with
  | none =>
    rw [hf] at h
    obtain ⟨rfl, rfl⟩ := h
    exact ⟨_, _, _, rfl, rfl, fun w2 hb => Par.conv_row 0 w2 none 0 0 [] ⟨rfl, (fun n hn => by cases hn), by decide, .inl rfl⟩⟩
  | some p =>
    rw [hf] at h
    obtain ⟨rfl, a, cap, rfl, hr⟩ := h
    exact ⟨_, _, _, rfl, rfl, fun w2 hb => Par.conv_row _ w2 _ _ _ _ (hr.later hb)⟩

theorem walk (a0 : Option Addr) (len0 cap0 : Nat) (z0 : List Par.Prm) (a1 : Option Addr) (len1 cap1 : Nat) (z1 : List Par.Prm) (a2 : Int) (w : World) (w0 : Par.Prms 0 w a0 len0 z0) (s0 : len0 ≤ cap0 ∧ cap0 ≤ 140737488351232 ∧ (a0 = none → len0 = 0 ∧ cap0 = 0)) (w1 : Par.Prms 0 w a1 len1 z1) (s1 : len1 ≤ cap1 ∧ cap1 ≤ 140737488351232 ∧ (a1 = none → len1 = 0 ∧ cap1 = 0)) (w2 : (Lit.int .u16 a2).wf = true) :
    Calls Try.prog 5 #[.slice a0 len0 cap0, .slice a1 len1 cap1, .int .u16 a2] w fun e w' => e = .returned (.bool true) ∧ Below w.heap.size w w' := by
  have hk : 0 ≤ a2 ∧ a2 < 65536 := Par.u16_bounds w2
  have E := Par.hidden (Par.find 0 w a0 len0 cap0 z0 w0 a2 hk)
  have HW := Par.hidden w0
  have HW1 := Par.hidden w1
  clear w0 w1
  go_enter Try.func5, Try.ntmps5
  go_wp2_with fail
  refine Calls.mono E.out ?_
  rintro e w3 ⟨v, t, rfl, hg, b3⟩
  obtain ⟨va, vl, vc, rfl, rfl, hv⟩ := got_conv hg
  have HV := Par.hidden hv
  have HB3 := Par.hidden b3
  have RE := Par.hidden (Par.rFind 0 w3 a0 len0 cap0 z0 (HW.out.later b3) a2 hk)
  clear E hv b3 hg
  go_wp2_with fail
  refine Calls.mono RE.out ?_
  rintro e w4 ⟨u, t, rfl, hg, b4⟩
  obtain ⟨ua, ul, uc, rfl, rfl, hu⟩ := got_conv hg
  have hv := HV.out w4 b4
  have hu := hu w4 (Below.refl _ _)
  have HB4 := Par.hidden (HB3.out.trans (b4.mono HB3.out.size))
  clear RE HV b4 hg
  generalize strOfNums (((Par.found z0 a2).map fun p => p.2.2.2.2).getD []) = str at *
  generalize (Par.found z0 a2).isSome = ok at *
  have S := Par.hidden (Par.same 0 0 w4 a0 a1 len0 len1 cap0 cap1 z0 z1 (HW.out.later HB4.out) (HW1.out.later HB4.out))
  go_wp2_with fail
  refine Calls.mono S.out ?_
  rintro e w5 ⟨t1, rfl, h1, b5⟩
  have H1 := Par.hidden h1
  have HB5 := Par.hidden (HB4.out.trans (b5.mono HB4.out.size))
  have RS := Par.hidden (Par.rSame 0 0 w5 a0 a1 len0 len1 cap0 cap1 z0 z1 (HW.out.later HB5.out) (HW1.out.later HB5.out))
  clear S h1 b5 hv hu
  go_wp2_with fail
  refine Calls.mono RS.out ?_
  rintro e w6 ⟨t2, rfl, h2, b6⟩
  obtain rfl : t1 = t2 := by
    have h3 := H1.out.trans h2.symm
    cases t1 <;> cases t2 <;> simp_all
  have HB6 := Par.hidden (HB5.out.trans (b6.mono HB5.out.size))
  have S2 := Par.hidden (Par.same 0 0 w6 a0 a0 len0 len0 cap0 cap0 z0 z0 (HW.out.later HB6.out) (HW.out.later HB6.out))
  clear RS h2 b6 H1
  go_wp2_with fail
  refine Calls.mono S2.out ?_
  rintro e w7 ⟨t3, rfl, h3, b7⟩
  obtain rfl : t3 = true := by simpa using h3
  have HB7 := Par.hidden (HB6.out.trans (b7.mono HB6.out.size))
  clear S2 h3 b7
  go_wp2_with fail
  refine Calls.mono (Par.alive w7) ?_
  rintro e w8 ⟨rfl, b8⟩
  go_wp2
  go_ret
  exact ⟨rfl, HB7.out.trans (b8.mono HB7.out.size)⟩

theorem contract (H : Type) (enc : TypeId × Value → H) (W : World) (base : Nat) (args : Array Value) (ds gs : List (DataW H)) (before : List MemPlace)
    (hval : ∀ (j : Nat) t v, Try.f5.params[j]? = some t → args[j]? = some v → Value.okWide Try.prog W .any base t v)
    (hW : DataW.Whole enc Try.prog Try.f5.params.toList Rows.paramFindsSpec.vars false W args.toList ds gs before)
    (hsz0 : (DataW.weightsEach Try.prog (Try.f5.params.toList ++ Rows.paramFindsSpec.plain.varTypes Try.prog) (ds ++ gs)).all (· ≤ reachBytes) = true) :
    Calls Try.prog 5 args W fun e W' => ∃ v, e = .returned v ∧ Rows.paramFindsSpec.post enc Try.prog Try.f5 false true false false W args v W' := by
  have hW' := hW
  obtain ⟨p, q, hA0, hV, rfl, hfz, hnd⟩ := hW
  have hA : DataW.TrodAll enc Try.prog W 0 (fun _ => true) true Try.f5.params.toList args.toList ds p := hA0
  have hsz := hsz0
  rw [Try.params5] at hA hval hsz
  obtain ⟨v0, vs0, d0, ds0, p0, q0, hargs, rfl, rfl, h0, r0⟩ := trodAll_cons hA
  obtain ⟨v1, vs1, d1, ds1, p1, q1, rfl, rfl, rfl, h1, r1⟩ := trodAll_cons r0
  obtain ⟨v2, vs2, d2, ds2, p2, q2, rfl, rfl, rfl, h2, r2⟩ := trodAll_cons r1
  obtain ⟨rfl, rfl, rfl⟩ := trodAll_nil r2
  obtain rfl : args = #[v0, v1, v2] := by cases args; simp_all
  obtain ⟨rfl, rfl⟩ := trodVars_none hV
  obtain ⟨a0, len0, cap0, rfl⟩ := okWide_slice Try.underlying22 (hval 0 22 v0 rfl rfl)
  have k0 := h0
  have lt0 : ∀ x ∈ p0, x.block < W.heap.size := by obtain ⟨m, hm⟩ := k0; exact DataW.trod_lt m _ _ _ hm
  have sz0 : (d0.weights Try.prog 22).all (· ≤ reachBytes) = true := List.all_eq_true.2 fun m hm => List.all_eq_true.1 hsz m (DataW.weights_mem_each (j := 0) rfl rfl m hm)
  obtain ⟨z0, w0, s0⟩ : ∃ zs, Par.Prms 0 W a0 len0 zs ∧ len0 ≤ cap0 ∧ cap0 ≤ 140737488351232 ∧ (a0 = none → len0 = 0 ∧ cap0 = 0) := by
    obtain ⟨fuel, hf⟩ := h0
    exact Par.prms_arg hf sz0
  obtain ⟨a1, len1, cap1, rfl⟩ := okWide_slice Try.underlying22 (hval 1 22 v1 rfl rfl)
  have k1 := h1
  have lt1 : ∀ x ∈ p1, x.block < W.heap.size := by obtain ⟨m, hm⟩ := k1; exact DataW.trod_lt m _ _ _ hm
  have sz1 : (d1.weights Try.prog 22).all (· ≤ reachBytes) = true := List.all_eq_true.2 fun m hm => List.all_eq_true.1 hsz m (DataW.weights_mem_each (j := 1) rfl rfl m hm)
  obtain ⟨z1, w1, s1⟩ : ∃ zs, Par.Prms 0 W a1 len1 zs ∧ len1 ≤ cap1 ∧ cap1 ≤ 140737488351232 ∧ (a1 = none → len1 = 0 ∧ cap1 = 0) := by
    obtain ⟨fuel, hf⟩ := h1
    exact Par.prms_arg hf sz1
  obtain ⟨a2, rfl, rfl, rfl, w2⟩ := open_int Try.underlying39 (hval 2 39 v2 rfl rfl) h2
  clear hA0 hsz0 hsz
  refine (walk a0 len0 cap0 z0 a1 len1 cap1 z1 a2 W w0 s0 w1 s1 w2).mono fun e W' ⟨he, bel⟩ => ?_
  subst he
  exact ⟨_, rfl, _, _, _, [], _, [], hW', trodAll_mk1 (shut_bool Try.underlying4 _), (trodAll_cons_mk (Below.trod laidOut (by kernel_rfl) (of_decide_eq_true (by kernel_rfl)) k0 bel lt0) (trodAll_cons_mk (Below.trod laidOut (by kernel_rfl) (of_decide_eq_true (by kernel_rfl)) k1 bel lt1) (trodAll_cons_mk (shut_int Try.underlying39 w2) trodAll_mk0))), rfl, bel.frame _, fun h => by cases h⟩

noncomputable def laidWorld (os : Os) : World :=
  World.holding Try.prog os ⟨#[], #[], []⟩
theorem laid_met (os : Os) : laidMet Try.prog Rows.paramFindsRow.laid ((laidWorld os).forCall (fun _ _ => 0) ⟨#[], #[.slice none 0 0, .slice none 0 0, .int .u16 0], []⟩).memory :=
  laidMet_of_run' 8 (by kernel_rfl) (by kernel_rfl)
theorem reads (os : Os) {H : Type} (enc : TypeId × Value → H) : ∃ places, DataW.whole enc Try.prog ((laidWorld os).forCall (fun _ _ => 0) ⟨#[], #[.slice none 0 0, .slice none 0 0, .int .u16 0], []⟩).memory Try.f5.params.toList Rows.paramFindsSpec.vars false #[Value.slice none 0 0, Value.slice none 0 0, Value.int .u16 0].toList 8 = some ([.nil, .nil, .lit (.int .u16 0)], [], places) :=
  ⟨[], by kernel_rfl⟩

set_option maxRecDepth 100000 in
theorem lifted (os : Os) (started : os.Started) (H : Type) (enc : TypeId × Value → H) (F : Stop.Interp) :
    ReturnsInHanded {} Try.checked os 5 .any ((OpenSpec.ofChange Rows.paramFindsSpec).preRow enc Try.prog Try.f5 Rows.paramFindsRow.domain false Rows.paramFindsRow.laid) (((OpenSpec.ofChange Rows.paramFindsSpec).at F).post enc Try.prog Try.f5 false true false false) := by
  obtain ⟨places, hx⟩ := reads os enc
  refine returnsInHanded_of_row (C := Try.checked) (s := OpenSpec.ofChange Rows.paramFindsSpec) own started (by kernel_rfl) Try.func5
    (witness_row_at (enc := enc) (C := Try.checked) false (laidWorld os) #[.slice none 0 0, .slice none 0 0, .int .u16 0] rfl (by kernel_rfl) (by kernel_rfl) (by kernel_rfl)
      (OpenSpec.preRow_of_cond 8 hx (by kernel_rfl) (fun k hk => by cases hk) (by kernel_rfl) (laid_met os))) ?_
  intro W base args ds gs before hval hW _ hcond hsz hL _ _
  exact contract H enc W base args ds gs before hval hW hsz

theorem said : Rows.ParamFindsSaid :=
  OpenClaim.holds_of_cond 5 Try.f5 rfl rfl rfl rfl rfl rfl rfl ⟨rfl, rfl, rfl, rfl, rfl⟩ rfl rfl rfl rfl rfl (by kernel_rfl) Try.func5 (by kernel_rfl)
    (of_decide_eq_true (by kernel_rfl)) (by unfold Func.isWrapper; first | (rw [if_pos (by decide +kernel)]; kernel_rfl) | (rw [if_neg (by decide +kernel)]; exact ⟨rfl, rfl⟩))
    (fun os started H enc _ F => by rw [OpenClaim.pre_eq_preRow]; exact lifted os started H enc F)

/-- THE STATEMENT -/
theorem proved : Rows.ParamFindsSaid := said
#print axioms proved
end Go.Proofs.Ytallpnjjeikamaa.paramFinds
