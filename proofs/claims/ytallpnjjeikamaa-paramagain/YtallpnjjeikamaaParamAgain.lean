/-
  For every row of bytes the law ParamAgain returns true: what is read is written, and read again as the same list, with no more bytes than were read and fewer than four less; with an error there is no list (P5.5). Conditions: as the statement has them.
-/
import Derived.Test.YtallpnjjeikamaaRows
import Derived.WalkKit
import Derived.ProofKit
import Derived.OpenShut
import Derived.ShutString
import Derived.ChangeOld
import Derived.Below
import Derived.SizedLaws
import Derived.Deep.DeepHandedRow
import Derived.LaidLaws
import Derived.ChangeMaps5
import Derived.Test.YtallpnjjeikamaaParM
import Derived.Test.YtallpnjjeikamaaParArgs
namespace Go.Proofs.Ytallpnjjeikamaa.paramAgain
open Go.ChangeShapes Go.WideShapes Go.ChangeAt Go.RowKit
open Go.ChangeMaps (open_string shut_string)
set_option linter.unusedVariables false

theorem own : ownKnob Try.prog.godebug = none := by kernel_rfl
theorem laidOut : laidOutB Try.prog = true := by kernel_rfl

theorem walk (a0 : Option Addr) (len0 cap0 : Nat) (z0 : List Int) (w : World) (w0 : Par.Row 0 w a0 len0 z0) (s0 : len0 ≤ cap0 ∧ cap0 ≤ 140737488351232 ∧ (a0 = none → len0 = 0 ∧ cap0 = 0)) :
    Calls Try.prog 8 #[.slice a0 len0 cap0] w fun e w' => e = .returned (.bool true) ∧ Below w.heap.size w w' := by
  have hz : Par.Bytes z0 := w0.2.1
  have hl0 := w0.1
  have hlim := w0.2.2.1
  have D := Par.hidden (Par.decode w a0 len0 cap0 z0 w0 s0.1 s0.2.2)
  clear w0
  go_enter Try.func8, Try.ntmps8
  go_wp2_with fail
  refine Calls.mono D.out ?_
  rintro e w1 ⟨pa, n, pcap, ps, p, c, rfl, hP, hpn, hO, b1⟩
  have HB1 := Par.hidden b1
  clear D b1
  by_cases hc0 : c = 0
  · subst hc0
    obtain ⟨hf, hn, hle, hlt⟩ := hO.list hz
    have E := Par.hidden (Par.encode w.heap.size w1 pa n pcap ps hP)
    have HP := Par.hidden hP
    have HOUT := Par.hidden (Par.enc_out (ps.map Par.val) hf hn)
    have HEB := Par.hidden (Par.enc_bytes (ps.map Par.val) (fun x hx => ⟨(hf x hx).1, (hf x hx).2.1⟩))
    have HCO := Par.hidden (fun c => @Par.code_ok w.heap.size w1 pa n ps hP hf hn c)
    generalize hX : Par.enc (ps.map Par.val) = X at *
    have h1 : (X.length : Int) ≤ (len0 : Int) := by omega
    have h2 : (len0 : Int) - (X.length : Int) < 4 := by omega
    clear hf hn hP hO hX hpn
    go_wp2_with fail
    refine Calls.mono E.out ?_
    rintro e w2 ⟨v, d, rfl, hd, _, h0, b2⟩
    obtain rfl := HCO.out d hd
    obtain ⟨g, cap, rfl, hcap⟩ := h0 rfl
    have HB2 := Par.hidden (HB1.out.trans (b2.mono HB1.out.size))
    have hcl : X.length ≤ cap := by obtain ⟨_, _, _, _, h, _⟩ := hcap; exact h
    have D2 := Par.hidden (Par.decode w2 (some ⟨g, 0, none⟩) X.length cap X ((hcap.row HEB.out).mono (Nat.zero_le _)) hcl (fun h => by cases h))
    have HP2 := Par.hidden (HP.out.later b2)
    clear E hd h0 b2 hcap hcl HP HCO HEB
    go_wp2_with fail
    refine Calls.mono D2.out ?_
    rintro e w3 ⟨pa2, n2, pcap2, ps2, p2, d2, rfl, hP2, _, hO2, b3⟩
    obtain ⟨hv, rfl, rfl⟩ := hO2.one HOUT.out
    have HB3 := Par.hidden (HB2.out.trans (b3.mono HB2.out.size))
    have S := Par.hidden (Par.rSame w.heap.size w2.heap.size w3 pa pa2 n n2 pcap pcap2 ps ps2 (HP2.out.later b3) hP2)
    have HV := Par.hidden hv
    clear D2 hP2 hO2 hv b3 HOUT HP2
    go_wp2_with fail
    refine Calls.mono S.out ?_
    rintro e w4 ⟨t, rfl, h3, b4⟩
    obtain rfl : t = true := h3.2 HV.out.symm
    have HB4 := Par.hidden (HB3.out.trans (b4.mono HB3.out.size))
    clear S h3 b4
    go_wp2_with fail
    refine Calls.mono (Par.alive w4) ?_
    rintro e w5 ⟨rfl, b5⟩
    go_wp2
    go_ret
    exact ⟨rfl, HB4.out.trans (b5.mono HB4.out.size)⟩
  · have hn0 : n = 0 := by
      have h1 := hO.none hc0
      have h2 := hP.1
      have h3 := congrArg List.length h1
      rw [List.length_map, List.length_nil] at h3
      omega
    subst hn0
    clear hO hP hpn
    go_wp2_with fail
    refine Calls.mono (Par.alive w1) ?_
    rintro e w5 ⟨rfl, b5⟩
    go_wp2
    go_ret
    exact ⟨rfl, HB1.out.trans (b5.mono HB1.out.size)⟩

theorem contract (H : Type) (enc : TypeId × Value → H) (W : World) (base : Nat) (args : Array Value) (ds gs : List (DataW H)) (before : List MemPlace)
    (hval : ∀ (j : Nat) t v, Try.f8.params[j]? = some t → args[j]? = some v → Value.okWide Try.prog W .any base t v)
    (hW : DataW.Whole enc Try.prog Try.f8.params.toList Rows.paramAgainSpec.vars false W args.toList ds gs before)
    (hsz0 : (DataW.weightsEach Try.prog (Try.f8.params.toList ++ Rows.paramAgainSpec.plain.varTypes Try.prog) (ds ++ gs)).all (· ≤ reachBytes) = true) :
    Calls Try.prog 8 args W fun e W' => ∃ v, e = .returned v ∧ Rows.paramAgainSpec.post enc Try.prog Try.f8 false true false false W args v W' := by
  have hW' := hW
  obtain ⟨p, q, hA0, hV, rfl, hfz, hnd⟩ := hW
  have hA : DataW.TrodAll enc Try.prog W 0 (fun _ => true) true Try.f8.params.toList args.toList ds p := hA0
  have hsz := hsz0
  rw [Try.params8] at hA hval hsz
  obtain ⟨v0, vs0, d0, ds0, p0, q0, hargs, rfl, rfl, h0, r0⟩ := trodAll_cons hA
  obtain ⟨rfl, rfl, rfl⟩ := trodAll_nil r0
  obtain rfl : args = #[v0] := by cases args; simp_all
  obtain ⟨rfl, rfl⟩ := trodVars_none hV
  obtain ⟨a0, len0, cap0, rfl⟩ := okWide_slice Try.underlying23 (hval 0 23 v0 rfl rfl)
  have k0 := h0
  have lt0 : ∀ x ∈ p0, x.block < W.heap.size := by obtain ⟨m, hm⟩ := k0; exact DataW.trod_lt m _ _ _ hm
  have sz0 : (d0.weights Try.prog 23).all (· ≤ reachBytes) = true := List.all_eq_true.2 fun m hm => List.all_eq_true.1 hsz m (DataW.weights_mem_each (j := 0) rfl rfl m hm)
  obtain ⟨z0, w0, s0⟩ : ∃ zs, Par.Row 0 W a0 len0 zs ∧ len0 ≤ cap0 ∧ cap0 ≤ 140737488351232 ∧ (a0 = none → len0 = 0 ∧ cap0 = 0) := by
    obtain ⟨fuel, hf⟩ := h0
    exact Par.row_arg hf sz0
  clear hA0 hsz0 hsz
  refine (walk a0 len0 cap0 z0 W w0 s0).mono fun e W' ⟨he, bel⟩ => ?_
  subst he
  exact ⟨_, rfl, _, _, _, [], _, [], hW', trodAll_mk1 (shut_bool Try.underlying4 _), (trodAll_cons_mk (Below.trod laidOut (by kernel_rfl) (of_decide_eq_true (by kernel_rfl)) k0 bel lt0) trodAll_mk0), rfl, bel.frame _, fun h => by cases h⟩

noncomputable def laidWorld (os : Os) : World :=
  World.holding Try.prog os ⟨#[], #[], []⟩
theorem laid_met (os : Os) : laidMet Try.prog Rows.paramAgainRow.laid ((laidWorld os).forCall (fun _ _ => 0) ⟨#[], #[.slice none 0 0], []⟩).memory :=
  laidMet_of_run' 8 (by kernel_rfl) (by kernel_rfl)
theorem reads (os : Os) {H : Type} (enc : TypeId × Value → H) : ∃ places, DataW.whole enc Try.prog ((laidWorld os).forCall (fun _ _ => 0) ⟨#[], #[.slice none 0 0], []⟩).memory Try.f8.params.toList Rows.paramAgainSpec.vars false #[Value.slice none 0 0].toList 8 = some ([.nil], [], places) :=
  ⟨[], by kernel_rfl⟩

set_option maxRecDepth 100000 in
theorem lifted (os : Os) (started : os.Started) (H : Type) (enc : TypeId × Value → H) (F : Stop.Interp) :
    ReturnsInHanded {} Try.checked os 8 .any ((OpenSpec.ofChange Rows.paramAgainSpec).preRow enc Try.prog Try.f8 Rows.paramAgainRow.domain false Rows.paramAgainRow.laid) (((OpenSpec.ofChange Rows.paramAgainSpec).at F).post enc Try.prog Try.f8 false true false false) := by
  obtain ⟨places, hx⟩ := reads os enc
  refine returnsInHanded_of_row (C := Try.checked) (s := OpenSpec.ofChange Rows.paramAgainSpec) own started (by kernel_rfl) Try.func8
    (witness_row_at (enc := enc) (C := Try.checked) false (laidWorld os) #[.slice none 0 0] rfl (by kernel_rfl) (by kernel_rfl) (by kernel_rfl)
      (OpenSpec.preRow_of_cond 8 hx (by kernel_rfl) (fun k hk => by cases hk) (by kernel_rfl) (laid_met os))) ?_
  intro W base args ds gs before hval hW _ hcond hsz hL _ _
  exact contract H enc W base args ds gs before hval hW hsz

theorem said : Rows.ParamAgainSaid :=
  OpenClaim.holds_of_cond 8 Try.f8 rfl rfl rfl rfl rfl rfl rfl ⟨rfl, rfl, rfl, rfl, rfl⟩ rfl rfl rfl rfl rfl (by kernel_rfl) Try.func8 (by kernel_rfl)
    (of_decide_eq_true (by kernel_rfl)) (by unfold Func.isWrapper; first | (rw [if_pos (by decide +kernel)]; kernel_rfl) | (rw [if_neg (by decide +kernel)]; exact ⟨rfl, rfl⟩))
    (fun os started H enc _ F => by rw [OpenClaim.pre_eq_preRow]; exact lifted os started H enc F)

/-- THE STATEMENT -/
theorem proved : Rows.ParamAgainSaid := said
#print axioms proved
end Go.Proofs.Ytallpnjjeikamaa.paramAgain
