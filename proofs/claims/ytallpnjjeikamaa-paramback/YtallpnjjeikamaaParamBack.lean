/-
  For every list of parameters the law ParamBack returns true: what is written is read as the same list; a list that may not be has no bytes, and an error (P5.5). Conditions: as the statement has them.
-/
import Derived.Test.YtallpnjjeikamaaRows
import Derived.WalkKit
import Derived.ProofKit
import Derived.OpenShut
import Derived.ShutString
import Derived.ChangeOld
import Derived.Below
import Derived.SizedLaws
import Derived.Deep.DeepHandedRow
import Derived.LaidLaws
import Derived.ChangeMaps5
import Derived.Test.YtallpnjjeikamaaParM
import Derived.Test.YtallpnjjeikamaaParArgs
namespace Go.Proofs.Ytallpnjjeikamaa.paramBack
open Go.ChangeShapes Go.WideShapes Go.ChangeAt Go.RowKit
open Go.ChangeMaps (open_string shut_string)
set_option linter.unusedVariables false

theorem own : ownKnob Try.prog.godebug = none := by kernel_rfl
theorem laidOut : laidOutB Try.prog = true := by kernel_rfl

theorem walk (a0 : Option Addr) (len0 cap0 : Nat) (z0 : List Par.Prm) (w : World) (w0 : Par.Prms 0 w a0 len0 z0) (s0 : len0 ≤ cap0 ∧ cap0 ≤ 140737488351232 ∧ (a0 = none → len0 = 0 ∧ cap0 = 0)) :
    Calls Try.prog 7 #[.slice a0 len0 cap0] w fun e w' => e = .returned (.bool true) ∧ Below w.heap.size w w' := by
  have E := Par.hidden (Par.encode 0 w a0 len0 cap0 z0 w0)
  have HW := Par.hidden w0
  clear w0
  go_enter Try.func7, Try.ntmps7
  go_wp2_with fail
  refine Calls.mono E.out ?_
  rintro e w1 ⟨v, c, rfl, hc, h1, h0, b1⟩
  have HB1 := Par.hidden b1
  clear E b1
  by_cases hz : c = 0
  · subst hz
    obtain ⟨g, cap, rfl, hcap⟩ := h0 rfl
    have hcc : ¬ Par.Long z0 ∧ z0.length ≤ 256 := by
      rcases hc with ⟨_, h⟩ | ⟨_, _, h⟩ | ⟨h1, h2, _⟩
      · omega
      · omega
      · exact ⟨h2, h1⟩
    have hout := Par.enc_out (z0.map Par.val) (Par.fits_of HW.out.2.2.1 hcc.1) (by rw [List.length_map]; exact hcc.2)
    have hle : (Par.enc (z0.map Par.val)).length ≤ cap := by obtain ⟨_, _, _, _, h, _⟩ := hcap; exact h
    have D := Par.hidden (Par.decode w1 (some ⟨g, 0, none⟩) (Par.enc (z0.map Par.val)).length cap (Par.enc (z0.map Par.val)) ((hcap.row (Par.enc_bytes _ (Par.vals_bytes HW.out.2.2.1))).mono (Nat.zero_le _)) hle (fun h => by cases h))
    have HOUT := Par.hidden hout
    clear hout hcc hle hcap h0 h1 hc
    go_wp2_with fail
    refine Calls.mono D.out ?_
    rintro e w2 ⟨pa, n, pcap, ps, p, d, rfl, hP, _, hO, b2⟩
    obtain ⟨hv, rfl, rfl⟩ := hO.one HOUT.out
    have HB2 := Par.hidden (HB1.out.trans (b2.mono HB1.out.size))
    have S := Par.hidden (Par.rSame 0 w1.heap.size w2 a0 pa len0 n cap0 pcap z0 ps (HW.out.later HB2.out) hP)
    have HV := Par.hidden hv
    clear D hP hO hv b2 HOUT
    go_wp2_with fail
    refine Calls.mono S.out ?_
    rintro e w3 ⟨t, rfl, h3, b3⟩
    obtain rfl : t = true := h3.2 HV.out.symm
    have HB3 := Par.hidden (HB2.out.trans (b3.mono HB2.out.size))
    clear S h3 b3
    go_wp2_with fail
    refine Calls.mono (Par.alive w3) ?_
    rintro e w4 ⟨rfl, b4⟩
    go_wp2
    go_ret
    exact ⟨rfl, HB3.out.trans (b4.mono HB3.out.size)⟩
  · obtain rfl := h1 hz
    have hc32 : c = 3 ∨ c = 2 := by
      rcases hc with ⟨_, h⟩ | ⟨_, _, h⟩ | ⟨_, _, h⟩
      · exact .inl h
      · exact .inr h
      · exact absurd h hz
    clear h1 h0 hc
    rcases hc32 with rfl | rfl
    · go_wp2_with fail
      refine Calls.mono (Par.alive w1) ?_
      rintro e w4 ⟨rfl, b4⟩
      go_wp2
      go_ret
      exact ⟨rfl, HB1.out.trans (b4.mono HB1.out.size)⟩
    · go_wp2_with fail
      refine Calls.mono (Par.alive w1) ?_
      rintro e w4 ⟨rfl, b4⟩
      go_wp2
      go_ret
      exact ⟨rfl, HB1.out.trans (b4.mono HB1.out.size)⟩

theorem contract (H : Type) (enc : TypeId × Value → H) (W : World) (base : Nat) (args : Array Value) (ds gs : List (DataW H)) (before : List MemPlace)
    (hval : ∀ (j : Nat) t v, Try.f7.params[j]? = some t → args[j]? = some v → Value.okWide Try.prog W .any base t v)
    (hW : DataW.Whole enc Try.prog Try.f7.params.toList Rows.paramBackSpec.vars false W args.toList ds gs before)
    (hsz0 : (DataW.weightsEach Try.prog (Try.f7.params.toList ++ Rows.paramBackSpec.plain.varTypes Try.prog) (ds ++ gs)).all (· ≤ reachBytes) = true) :
    Calls Try.prog 7 args W fun e W' => ∃ v, e = .returned v ∧ Rows.paramBackSpec.post enc Try.prog Try.f7 false true false false W args v W' := by
  have hW' := hW
  obtain ⟨p, q, hA0, hV, rfl, hfz, hnd⟩ := hW
  have hA : DataW.TrodAll enc Try.prog W 0 (fun _ => true) true Try.f7.params.toList args.toList ds p := hA0
  have hsz := hsz0
  rw [Try.params7] at hA hval hsz
  obtain ⟨v0, vs0, d0, ds0, p0, q0, hargs, rfl, rfl, h0, r0⟩ := trodAll_cons hA
  obtain ⟨rfl, rfl, rfl⟩ := trodAll_nil r0
  obtain rfl : args = #[v0] := by cases args; simp_all
  obtain ⟨rfl, rfl⟩ := trodVars_none hV
  obtain ⟨a0, len0, cap0, rfl⟩ := okWide_slice Try.underlying22 (hval 0 22 v0 rfl rfl)
  have k0 := h0
  have lt0 : ∀ x ∈ p0, x.block < W.heap.size := by obtain ⟨m, hm⟩ := k0; exact DataW.trod_lt m _ _ _ hm
  have sz0 : (d0.weights Try.prog 22).all (· ≤ reachBytes) = true := List.all_eq_true.2 fun m hm => List.all_eq_true.1 hsz m (DataW.weights_mem_each (j := 0) rfl rfl m hm)
  obtain ⟨z0, w0, s0⟩ : ∃ zs, Par.Prms 0 W a0 len0 zs ∧ len0 ≤ cap0 ∧ cap0 ≤ 140737488351232 ∧ (a0 = none → len0 = 0 ∧ cap0 = 0) := by
    obtain ⟨fuel, hf⟩ := h0
    exact Par.prms_arg hf sz0
  clear hA0 hsz0 hsz
  refine (walk a0 len0 cap0 z0 W w0 s0).mono fun e W' ⟨he, bel⟩ => ?_
  subst he
  exact ⟨_, rfl, _, _, _, [], _, [], hW', trodAll_mk1 (shut_bool Try.underlying4 _), (trodAll_cons_mk (Below.trod laidOut (by kernel_rfl) (of_decide_eq_true (by kernel_rfl)) k0 bel lt0) trodAll_mk0), rfl, bel.frame _, fun h => by cases h⟩

noncomputable def laidWorld (os : Os) : World :=
  World.holding Try.prog os ⟨#[], #[], []⟩
theorem laid_met (os : Os) : laidMet Try.prog Rows.paramBackRow.laid ((laidWorld os).forCall (fun _ _ => 0) ⟨#[], #[.slice none 0 0], []⟩).memory :=
  laidMet_of_run' 8 (by kernel_rfl) (by kernel_rfl)
theorem reads (os : Os) {H : Type} (enc : TypeId × Value → H) : ∃ places, DataW.whole enc Try.prog ((laidWorld os).forCall (fun _ _ => 0) ⟨#[], #[.slice none 0 0], []⟩).memory Try.f7.params.toList Rows.paramBackSpec.vars false #[Value.slice none 0 0].toList 8 = some ([.nil], [], places) :=
  ⟨[], by kernel_rfl⟩

set_option maxRecDepth 100000 in
theorem lifted (os : Os) (started : os.Started) (H : Type) (enc : TypeId × Value → H) (F : Stop.Interp) :
    ReturnsInHanded {} Try.checked os 7 .any ((OpenSpec.ofChange Rows.paramBackSpec).preRow enc Try.prog Try.f7 Rows.paramBackRow.domain false Rows.paramBackRow.laid) (((OpenSpec.ofChange Rows.paramBackSpec).at F).post enc Try.prog Try.f7 false true false false) := by
  obtain ⟨places, hx⟩ := reads os enc
  refine returnsInHanded_of_row (C := Try.checked) (s := OpenSpec.ofChange Rows.paramBackSpec) own started (by kernel_rfl) Try.func7
    (witness_row_at (enc := enc) (C := Try.checked) false (laidWorld os) #[.slice none 0 0] rfl (by kernel_rfl) (by kernel_rfl) (by kernel_rfl)
      (OpenSpec.preRow_of_cond 8 hx (by kernel_rfl) (fun k hk => by cases hk) (by kernel_rfl) (laid_met os))) ?_
  intro W base args ds gs before hval hW _ hcond hsz hL _ _
  exact contract H enc W base args ds gs before hval hW hsz

theorem said : Rows.ParamBackSaid :=
  OpenClaim.holds_of_cond 7 Try.f7 rfl rfl rfl rfl rfl rfl rfl ⟨rfl, rfl, rfl, rfl, rfl⟩ rfl rfl rfl rfl rfl (by kernel_rfl) Try.func7 (by kernel_rfl)
    (of_decide_eq_true (by kernel_rfl)) (by unfold Func.isWrapper; first | (rw [if_pos (by decide +kernel)]; kernel_rfl) | (rw [if_neg (by decide +kernel)]; exact ⟨rfl, rfl⟩))
    (fun os started H enc _ F => by rw [OpenClaim.pre_eq_preRow]; exact lifted os started H enc F)

/-- THE STATEMENT -/
theorem proved : Rows.ParamBackSaid := said
#print axioms proved
end Go.Proofs.Ytallpnjjeikamaa.paramBack
