/-
  For every list of parameters the law ParamEncodes returns true: the bytes that Encode makes of it, its refusals and Size are the document's (P5.1). Conditions: as the statement has them.
-/
import Derived.Test.YtallpnjjeikamaaRows
import Derived.WalkKit
import Derived.ProofKit
import Derived.OpenShut
import Derived.ShutString
import Derived.ChangeOld
import Derived.Below
import Derived.SizedLaws
import Derived.Deep.DeepHandedRow
import Derived.LaidLaws
import Derived.ChangeMaps5
import Derived.Test.YtallpnjjeikamaaParE
import Derived.Test.YtallpnjjeikamaaParArgs
namespace Go.Proofs.Ytallpnjjeikamaa.paramEncodes
open Go.ChangeShapes Go.WideShapes Go.ChangeAt Go.RowKit
open Go.ChangeMaps (open_string shut_string)
set_option linter.unusedVariables false

theorem own : ownKnob Try.prog.godebug = none := by kernel_rfl
theorem laidOut : laidOutB Try.prog = true := by kernel_rfl

theorem code_one {ps : List Par.Prm} {c d : Int} (h : Par.code ps c) (h2 : Par.code ps d) : c = d := by
  unfold Par.code at h h2
  rcases h with ⟨h, e⟩ | ⟨h, h', e⟩ | ⟨h, h', e⟩ <;> rcases h2 with ⟨g, f⟩ | ⟨g, g', f⟩ | ⟨g, g', f⟩ <;> first | omega | exact absurd h' g' | exact absurd g' h'
theorem size_one {ps : List Par.Prm} {s u : Int} (h : ∃ c, Par.code ps c ∧ (c ≠ 0 → s = 0) ∧ (c = 0 → s = ((Par.enc (ps.map Par.val)).length : Int))) (h2 : ∃ c, Par.code ps c ∧ (c ≠ 0 → u = 0) ∧ (c = 0 → u = ((Par.enc (ps.map Par.val)).length : Int))) : s = u := by
  obtain ⟨c, hc, h1, h0⟩ := h
  obtain ⟨d, hd, g1, g0⟩ := h2
  obtain rfl := code_one hc hd
  by_cases hz : c = 0
  · rw [h0 hz, g0 hz]
  · rw [h1 hz, g1 hz]

theorem walk (a0 : Option Addr) (len0 cap0 : Nat) (z0 : List Par.Prm) (w : World) (w0 : Par.Prms 0 w a0 len0 z0) (s0 : len0 ≤ cap0 ∧ cap0 ≤ 140737488351232 ∧ (a0 = none → len0 = 0 ∧ cap0 = 0)) :
    Calls Try.prog 3 #[.slice a0 len0 cap0] w fun e w' => e = .returned (.bool true) ∧ Below w.heap.size w w' := by
  have E := Par.hidden (Par.encode 0 w a0 len0 cap0 z0 w0)
  have HW := Par.hidden w0
  clear w0
  go_enter Try.func3, Try.ntmps3
  go_wp2_with fail
  refine Calls.mono E.out ?_
  rintro e w1 ⟨v, c, rfl, hc, h1, h0, b1⟩
  have HB1 := Par.hidden b1
  have HC := Par.hidden hc
  have RE := Par.hidden (Par.rEncode 0 w1 a0 len0 cap0 z0 (HW.out.later b1))
  obtain ⟨va, vl, vc, rfl, hv⟩ : ∃ va vl vc, v = .slice va vl vc ∧ ∀ w2, Below w1.heap.size w1 w2 → (convert 23 9 (.slice va vl vc)).run Try.prog w2 = .ok (.string (strOfNums (if c = 0 then Par.enc (z0.map Par.val) else []))) w2 := by
    by_cases hz : c = 0
    · obtain ⟨g, cap, rfl, hcap⟩ := h0 hz
      refine ⟨_, _, _, rfl, fun w2 hb => ?_⟩
      rw [if_pos hz]
      exact Par.conv_row _ w2 _ _ cap _ ((hcap.row (Par.enc_bytes _ (Par.vals_bytes HW.out.2.2.1))).later hb)
    · obtain rfl := h1 hz
      refine ⟨_, _, _, rfl, fun w2 hb => ?_⟩
      rw [if_neg hz]
      exact Par.conv_row 0 w2 none 0 0 [] ⟨rfl, (fun n hn => by cases hn), by decide, .inl rfl⟩
  have HV := Par.hidden hv
  clear E b1 hc h1 h0 hv
  go_wp2_with fail
  refine Calls.mono RE.out ?_
  rintro e w2 ⟨u, d, rfl, hd, h1, h0, b2⟩
  obtain rfl := code_one HC.out hd
  have HB2 := Par.hidden (HB1.out.trans (b2.mono HB1.out.size))
  have hv := HV.out w2 b2
  obtain ⟨ua, ul, uc, rfl, hu⟩ : ∃ va vl vc, u = .slice va vl vc ∧ (convert 23 9 (.slice va vl vc)).run Try.prog w2 = .ok (.string (strOfNums (if c = 0 then Par.enc (z0.map Par.val) else []))) w2 := by
    by_cases hz : c = 0
    · obtain ⟨g, cap, rfl, hr, _⟩ := Par.row_own (h0 hz) (Par.enc_bytes _ (Par.vals_bytes HW.out.2.2.1)) (by
        have := (h0 hz).1
        have hcc := HC.out
        unfold Par.code at hcc
        have := Par.enc_take_le (ps := z0) (by rcases hcc with ⟨_, e⟩ | ⟨_, _, e⟩ | ⟨_, h, _⟩ <;> first | omega | exact h) (by rcases hcc with ⟨_, e⟩ | ⟨_, _, e⟩ | ⟨h, _, _⟩ <;> omega) HW.out.2.2.1 z0.length
        rw [List.take_length] at this
        omega)
      refine ⟨_, _, _, rfl, ?_⟩
      rw [if_pos hz]
      exact Par.conv_row _ w2 _ _ cap _ hr
    · obtain rfl := h1 hz
      refine ⟨_, _, _, rfl, ?_⟩
      rw [if_neg hz]
      exact Par.conv_row 0 w2 none 0 0 [] ⟨rfl, (fun n hn => by cases hn), by decide, .inl rfl⟩
  generalize strOfNums (if c = 0 then Par.enc (z0.map Par.val) else []) = str at *
  have S := Par.hidden (Par.size_ 0 w2 a0 len0 cap0 z0 (HW.out.later HB2.out))
  clear HV h1 h0 hd b2 RE
  go_wp2_with fail
  refine Calls.mono S.out ?_
  rintro e w3 ⟨c1, s1, x1, x2, x3, rfl, b3⟩
  have HS1 := Par.hidden (⟨c1, x1, x2, x3⟩ : ∃ c, Par.code z0 c ∧ (c ≠ 0 → s1 = 0) ∧ (c = 0 → s1 = ((Par.enc (z0.map Par.val)).length : Int)))
  have HB3 := Par.hidden (HB2.out.trans (b3.mono HB2.out.size))
  have RS := Par.hidden (Par.rSize 0 w3 a0 len0 cap0 z0 (HW.out.later HB3.out))
  clear x1 x2 x3 S b3 hv hu
  go_wp2_with fail
  refine Calls.mono RS.out ?_
  rintro e w4 ⟨c2, s2, y1, y2, y3, rfl, b4⟩
  obtain rfl := size_one HS1.out ⟨c2, y1, y2, y3⟩
  have HB4 := Par.hidden (HB3.out.trans (b4.mono HB3.out.size))
  clear y1 y2 y3 b4 RS HS1
  go_wp2_with fail
  refine Calls.mono (Par.alive w4) ?_
  rintro e w5 ⟨rfl, b5⟩
  go_wp2
  go_ret
  exact ⟨rfl, HB4.out.trans (b5.mono HB4.out.size)⟩

theorem contract (H : Type) (enc : TypeId × Value → H) (W : World) (base : Nat) (args : Array Value) (ds gs : List (DataW H)) (before : List MemPlace)
    (hval : ∀ (j : Nat) t v, Try.f3.params[j]? = some t → args[j]? = some v → Value.okWide Try.prog W .any base t v)
    (hW : DataW.Whole enc Try.prog Try.f3.params.toList Rows.paramEncodesSpec.vars false W args.toList ds gs before)
    (hsz0 : (DataW.weightsEach Try.prog (Try.f3.params.toList ++ Rows.paramEncodesSpec.plain.varTypes Try.prog) (ds ++ gs)).all (· ≤ reachBytes) = true) :
    Calls Try.prog 3 args W fun e W' => ∃ v, e = .returned v ∧ Rows.paramEncodesSpec.post enc Try.prog Try.f3 false true false false W args v W' := by
  have hW' := hW
  obtain ⟨p, q, hA0, hV, rfl, hfz, hnd⟩ := hW
  have hA : DataW.TrodAll enc Try.prog W 0 (fun _ => true) true Try.f3.params.toList args.toList ds p := hA0
  have hsz := hsz0
  rw [Try.params3] at hA hval hsz
  obtain ⟨v0, vs0, d0, ds0, p0, q0, hargs, rfl, rfl, h0, r0⟩ := trodAll_cons hA
  obtain ⟨rfl, rfl, rfl⟩ := trodAll_nil r0
  obtain rfl : args = #[v0] := by cases args; simp_all
  obtain ⟨rfl, rfl⟩ := trodVars_none hV
  obtain ⟨a0, len0, cap0, rfl⟩ := okWide_slice Try.underlying22 (hval 0 22 v0 rfl rfl)
  have k0 := h0
  have lt0 : ∀ x ∈ p0, x.block < W.heap.size := by obtain ⟨m, hm⟩ := k0; exact DataW.trod_lt m _ _ _ hm
  have sz0 : (d0.weights Try.prog 22).all (· ≤ reachBytes) = true := List.all_eq_true.2 fun m hm => List.all_eq_true.1 hsz m (DataW.weights_mem_each (j := 0) rfl rfl m hm)
  obtain ⟨z0, w0, s0⟩ : ∃ zs, Par.Prms 0 W a0 len0 zs ∧ len0 ≤ cap0 ∧ cap0 ≤ 140737488351232 ∧ (a0 = none → len0 = 0 ∧ cap0 = 0) := by
    obtain ⟨fuel, hf⟩ := h0
    exact Par.prms_arg hf sz0
  clear hA0 hsz0 hsz
  refine (walk a0 len0 cap0 z0 W w0 s0).mono fun e W' ⟨he, bel⟩ => ?_
  subst he
  exact ⟨_, rfl, _, _, _, [], _, [], hW', trodAll_mk1 (shut_bool Try.underlying4 _), (trodAll_cons_mk (Below.trod laidOut (by kernel_rfl) (of_decide_eq_true (by kernel_rfl)) k0 bel lt0) trodAll_mk0), rfl, bel.frame _, fun h => by cases h⟩

noncomputable def laidWorld (os : Os) : World :=
  World.holding Try.prog os ⟨#[], #[], []⟩
theorem laid_met (os : Os) : laidMet Try.prog Rows.paramEncodesRow.laid ((laidWorld os).forCall (fun _ _ => 0) ⟨#[], #[.slice none 0 0], []⟩).memory :=
  laidMet_of_run' 8 (by kernel_rfl) (by kernel_rfl)
theorem reads (os : Os) {H : Type} (enc : TypeId × Value → H) : ∃ places, DataW.whole enc Try.prog ((laidWorld os).forCall (fun _ _ => 0) ⟨#[], #[.slice none 0 0], []⟩).memory Try.f3.params.toList Rows.paramEncodesSpec.vars false #[Value.slice none 0 0].toList 8 = some ([.nil], [], places) :=
  ⟨[], by kernel_rfl⟩

set_option maxRecDepth 100000 in
theorem lifted (os : Os) (started : os.Started) (H : Type) (enc : TypeId × Value → H) (F : Stop.Interp) :
    ReturnsInHanded {} Try.checked os 3 .any ((OpenSpec.ofChange Rows.paramEncodesSpec).preRow enc Try.prog Try.f3 Rows.paramEncodesRow.domain false Rows.paramEncodesRow.laid) (((OpenSpec.ofChange Rows.paramEncodesSpec).at F).post enc Try.prog Try.f3 false true false false) := by
  obtain ⟨places, hx⟩ := reads os enc
  refine returnsInHanded_of_row (C := Try.checked) (s := OpenSpec.ofChange Rows.paramEncodesSpec) own started (by kernel_rfl) Try.func3
    (witness_row_at (enc := enc) (C := Try.checked) false (laidWorld os) #[.slice none 0 0] rfl (by kernel_rfl) (by kernel_rfl) (by kernel_rfl)
      (OpenSpec.preRow_of_cond 8 hx (by kernel_rfl) (fun k hk => by cases hk) (by kernel_rfl) (laid_met os))) ?_
  intro W base args ds gs before hval hW _ hcond hsz hL _ _
  exact contract H enc W base args ds gs before hval hW hsz

theorem said : Rows.ParamEncodesSaid :=
  OpenClaim.holds_of_cond 3 Try.f3 rfl rfl rfl rfl rfl rfl rfl ⟨rfl, rfl, rfl, rfl, rfl⟩ rfl rfl rfl rfl rfl (by kernel_rfl) Try.func3 (by kernel_rfl)
    (of_decide_eq_true (by kernel_rfl)) (by unfold Func.isWrapper; first | (rw [if_pos (by decide +kernel)]; kernel_rfl) | (rw [if_neg (by decide +kernel)]; exact ⟨rfl, rfl⟩))
    (fun os started H enc _ F => by rw [OpenClaim.pre_eq_preRow]; exact lifted os started H enc F)

/-- THE STATEMENT -/
theorem proved : Rows.ParamEncodesSaid := said
#print axioms proved
end Go.Proofs.Ytallpnjjeikamaa.paramEncodes
