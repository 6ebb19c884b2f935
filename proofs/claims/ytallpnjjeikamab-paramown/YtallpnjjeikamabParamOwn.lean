/-
  For every row of bytes the law ParamOwn returns true: Decode changes nothing that it is handed, and a later change of that changes nothing that it told (rule 4). Conditions: as the statement has them.
-/
import Derived.Test.YtallpnjjeikamabRows
import Derived.WalkKit
import Derived.ProofKit
import Derived.OpenShut
import Derived.ShutString
import Derived.ChangeOld
import Derived.Below
import Derived.SizedLaws
import Derived.Deep.DeepHandedRow
import Derived.LaidLaws
import Derived.ChangeMaps5
import Derived.Test.YtallpnjjeikamabParN
import Derived.Test.YtallpnjjeikamabParArgs
namespace Go.Proofs.Ytallpnjjeikamab.paramOwn
open Go.ChangeShapes Go.WideShapes Go.ChangeAt Go.RowKit
open Go.ChangeMaps (open_string shut_string)
set_option linter.unusedVariables false

theorem own : ownKnob Try.prog.godebug = none := by kernel_rfl
theorem laidOut : laidOutB Try.prog = true := by kernel_rfl

/-- a row of the call's own, whatever it holds -/
def Mine (w : World) (base g cap n : Nat) : Prop := ∃ xs, w.ownsRow base 5 1 (.slice (some ⟨g, 0, none⟩) n cap) n xs
theorem Mine.cell {w : World} {base g cap n : Nat} (h : Mine w base g cap n) (j : Nat) (hj : j < n) : ∃ v, w.cell? ⟨g, j, none⟩ = some v := by
  obtain ⟨xs, h⟩ := h
  have hl := h.1
  rw [Nat.mul_one] at hl
  exact ⟨_, (h.cellAt j (by omega)).trans (List.getElem?_eq_getElem (by omega))⟩
theorem Mine.frozen {w : World} {base g cap n : Nat} (h : Mine w base g cap n) (j : Nat) : w.frozen? ⟨g, j, none⟩ = false := by
  obtain ⟨xs, h⟩ := h
  exact h.frozenAt j
theorem Mine.set {w : World} {base g cap n : Nat} (h : Mine w base g cap n) (j : Nat) (u : Value) : Mine (w.setCell ⟨g, j, none⟩ u) base g cap n := by
  obtain ⟨xs, h⟩ := h
  exact ⟨_, (h.stored j u).1⟩
theorem Mine.later {w w' : World} {base g cap n : Nat} (h : Mine w base g cap n) (hb : Below w.heap.size w w') : Mine w' base g cap n := by
  obtain ⟨xs, h⟩ := h
  exact ⟨xs, h.kept (row := none) ⟨hb.os, hb.tape, hb.output, hb.size, fun k hk _ => hb.block k hk⟩ (Classical.em (Value.ownBlock (.slice (some ⟨g, 0, none⟩) n cap) = none))⟩
theorem own_some {w : World} {base n : Nat} {v : Value} {xs : List Value} (h : w.ownsRow base 5 1 v n xs) (hv : ¬ v = .slice none 0 0) : ∃ g cap, v = .slice (some ⟨g, 0, none⟩) n cap ∧ base ≤ g ∧ g < w.heap.size := by
  rcases h.2 with ⟨rfl, _⟩ | ⟨g, cap, cur, rfl, hb, hh, _⟩
  · exact absurd rfl hv
  · exact ⟨g, cap, rfl, hb, (Array.getElem?_eq_some_iff.1 hh).1⟩

theorem walk (a0 : Option Addr) (len0 cap0 : Nat) (z0 : List Int) (w : World) (w0 : Par.Row 0 w a0 len0 z0) (s0 : len0 ≤ cap0 ∧ cap0 ≤ 140737488351232 ∧ (a0 = none → len0 = 0 ∧ cap0 = 0)) :
    Calls Try.prog 3 #[.slice a0 len0 cap0] w fun e w' => e = .returned (.bool true) ∧ Below w.heap.size w w' := by
  obtain ⟨i0, hi, hz0, hz1, hz2⟩ := info_parts Par.info5
  have hl0 := w0.1
  have hlim := w0.2.2.1
  have HZ := Par.hidden w0.2.1
  have HW := Par.hidden w0
  have hE := Par.own_empty w w.heap.size (Nat.le_refl _)
  have hEB : Below w.heap.size w (w.alloc (.cells #[] 5)) := (Below.refl _ w).alloc (Nat.le_refl _) _
  have HE := Par.hidden hE
  have HEB := Par.hidden hEB
  clear w0 hE hEB
  go_enter Try.func3, Try.ntmps3
  go_upto_region 1 with fail
  go_cut [0, 3] from 11 (fun s0 s3 wx => s0 = .slice a0 len0 cap0 ∧ ∃ g vc, s3 = .slice (some ⟨g, 0, none⟩) len0 vc ∧ w.heap.size ≤ g ∧ g < wx.heap.size ∧ wx.ownsRow w.heap.size 5 1 (.slice (some ⟨g, 0, none⟩) len0 vc) len0 (Par.cs z0) ∧ Below w.heap.size w wx)
  case first =>
    rcases a0 with _ | ad
    · obtain ⟨h0, h1⟩ := s0.2.2 rfl
      subst h0; subst h1
      obtain rfl := List.eq_nil_of_length_eq_zero hl0
      go_wp2_with (at_builtin; refine wpList_append_own_none rfl _ _ 22 rfl w.heap.size 5 i0 1 Try.underlying22 hi _ _ _ rfl HE.out rfl ?_)
      go_wp2_with fail
      go_meet
      exact ⟨rfl, w.heap.size, 0, rfl, Nat.le_refl _, by simp, HE.out, HEB.out⟩
    · have HN := Par.hidden ((HW.out.later HEB.out).news)
      go_wp2_with (at_builtin; refine wpList_append_own _ rfl _ _ 22 rfl w.heap.size 5 i0 (.int .u8 0) 1 1 Try.underlying22 hi hz0 hz1 hz2 rfl (by decide) _ _ _ rfl HE.out ad len0 cap0 (Par.cs z0) rfl ?c0 HN.out (Par.cs_one _) ?c3 ?c4 (by simp) ?_)
      case c0 => rw [Par.cs_len, hl0, Nat.mul_one]
      case c3 => unfold maxLen; omega
      case c4 => omega
      intro v' w2 ho2 hg2 hv2
      have ho3 : w2.ownsRow w.heap.size 5 1 v' len0 (Par.cs z0) := by simpa using ho2
      obtain ⟨g, vc, rfl, hg, hglt⟩ := own_some ho3 hv2
      have B2 : Below w.heap.size w w2 := HEB.out.grown hg2 (by simp) (fun j hj => (HE.out.lt j hj).1)
      have HO := Par.hidden ho3
      clear ho2 hg2 hv2 ho3
      go_wp2_with fail
      go_meet
      exact ⟨rfl, g, vc, rfl, hg, hglt, HO.out, B2⟩
  case rest =>
  obtain ⟨rfl, g, vc, rfl, hg, hglt, ho, bc⟩ := hcut
  obtain ⟨a', vc', e, hrow, hlc, _, _⟩ := Par.row_own ho HZ.out hlim
  cases e
  have D := Par.hidden (Par.decode wc (some ⟨g, 0, none⟩) len0 vc z0 (hrow.mono (Nat.zero_le _)) hlc (fun h => by cases h))
  have HR := Par.hidden hrow
  have HM := Par.hidden (show Mine wc w.heap.size g vc len0 from ⟨_, ho⟩)
  have HBC := Par.hidden bc
  clear ho hrow bc HE HEB
  go_wp2_with fail
  refine Calls.mono D.out ?_
  rintro e w1 ⟨pa, n, pcap, ps, p, c, rfl, hP, _, hO, b1⟩
  have HB1 := Par.hidden (HBC.out.trans (b1.mono HBC.out.size))
  have RD := Par.hidden (Par.rDecode 0 w1 a0 len0 cap0 z0 (HW.out.later HB1.out) s0.1 s0.2.2)
  have HP := Par.hidden hP
  have HO := Par.hidden hO
  have HR1 := Par.hidden (HR.out.later b1)
  have HM1 := Par.hidden (HM.out.later b1)
  have hs1 := b1.size
  clear D b1 hP hO HR HM
  go_wp2_with fail
  refine Calls.mono RD.out ?_
  rintro e w2 ⟨pa2, n2, pcap2, ps2, p2, c2, rfl, hP2, _, hO2, b2⟩
  obtain ⟨hv, rfl, rfl⟩ := HO.out.one hO2
  have HB2 := Par.hidden (HB1.out.trans (b2.mono HB1.out.size))
  have hcv := Par.conv_row _ w2 _ _ vc _ (HR1.out.later b2)
  have hcb := Par.conv_row _ w2 _ _ cap0 _ (HW.out.later HB2.out)
  have HP1 := Par.hidden (HP.out.later b2)
  have HP2 := Par.hidden hP2
  have HM2 := Par.hidden (HM1.out.later b2)
  have HV := Par.hidden hv
  have hs2 := b2.size
  clear RD b2 hP2 hO2 hv HP HO HR1 HM1
  generalize strOfNums z0 = str at *
  go_wp2_with fail
  go_loopw [38] (fun i wr => ∃ k : Nat, k ≤ len0 ∧ i = .int .i64 k ∧ Mine wr w.heap.size g vc len0 ∧ Par.Prms wc.heap.size wr pa n ps ∧ Par.Prms w1.heap.size wr pa2 n2 ps2 ∧ Below w.heap.size w wr) (fun i _ => len0 - (intOf i).toNat)
  case atStart => exact ⟨0, Nat.zero_le _, rfl, HM2.out, HP1.out, HP2.out, HB2.out⟩
  case round =>
    obtain ⟨k, hk, rfl, hM, hP1, hP2, hb⟩ := hrel
    rcases Nat.lt_or_ge k len0 with hlt | hge
    · obtain ⟨v, c0⟩ := hM.cell k hlt
      have f0 := hM.frozen k
      have HM3 := Par.hidden (hM.set k (.int .u8 0))
      have HP3 := Par.hidden (hP1.set (x := ⟨g, k, none⟩) (by show g < wc.heap.size; exact hglt) (.int .u8 0))
      have HP4 := Par.hidden (hP2.set (x := ⟨g, k, none⟩) (by show g < w1.heap.size; omega) (.int .u8 0))
      have HB3 := Par.hidden (hb.setCell (p := ⟨g, k, none⟩) hg (.int .u8 0))
      clear hM hP1 hP2 hb
      go_wp2
      go_roundw
      case rel => exact ⟨k + 1, by omega, by go_num, HM3.out, HP3.out, HP4.out, HB3.out⟩
      case measure => simp [intOf]; omega
    · obtain rfl : k = len0 := by omega
      have S := Par.hidden (Par.rSame wc.heap.size w1.heap.size wr pa pa2 n n2 pcap pcap2 ps ps2 hP1 hP2)
      have HB3 := Par.hidden hb
      clear hM hP1 hP2 hb
      go_wp2_with fail
      refine Calls.mono S.out ?_
      rintro e w3 ⟨t, rfl, h3, b3⟩
      obtain rfl : t = true := h3.2 HV.out
      have HB4 := Par.hidden (HB3.out.trans (b3.mono HB3.out.size))
      clear S h3 b3
      go_wp2_with fail
      refine Calls.mono (Par.alive w3) ?_
      rintro e w4 ⟨rfl, b4⟩
      go_wp2
      go_ret
      exact ⟨rfl, HB4.out.trans (b4.mono HB4.out.size)⟩

theorem contract (H : Type) (enc : TypeId × Value → H) (W : World) (base : Nat) (args : Array Value) (ds gs : List (DataW H)) (before : List MemPlace)
    (hval : ∀ (j : Nat) t v, Try.f3.params[j]? = some t → args[j]? = some v → Value.okWide Try.prog W .any base t v)
    (hW : DataW.Whole enc Try.prog Try.f3.params.toList Rows.paramOwnSpec.vars false W args.toList ds gs before)
    (hsz0 : (DataW.weightsEach Try.prog (Try.f3.params.toList ++ Rows.paramOwnSpec.plain.varTypes Try.prog) (ds ++ gs)).all (· ≤ reachBytes) = true) :
    Calls Try.prog 3 args W fun e W' => ∃ v, e = .returned v ∧ Rows.paramOwnSpec.post enc Try.prog Try.f3 false true false false W args v W' := by
  have hW' := hW
  obtain ⟨p, q, hA0, hV, rfl, hfz, hnd⟩ := hW
  have hA : DataW.TrodAll enc Try.prog W 0 (fun _ => true) true Try.f3.params.toList args.toList ds p := hA0
  have hsz := hsz0
  rw [Try.params3] at hA hval hsz
  obtain ⟨v0, vs0, d0, ds0, p0, q0, hargs, rfl, rfl, h0, r0⟩ := trodAll_cons hA
  obtain ⟨rfl, rfl, rfl⟩ := trodAll_nil r0
  obtain rfl : args = #[v0] := by cases args; simp_all
  obtain ⟨rfl, rfl⟩ := trodVars_none hV
  obtain ⟨a0, len0, cap0, rfl⟩ := okWide_slice Try.underlying22 (hval 0 22 v0 rfl rfl)
  have k0 := h0
  have lt0 : ∀ x ∈ p0, x.block < W.heap.size := by obtain ⟨m, hm⟩ := k0; exact DataW.trod_lt m _ _ _ hm
  have sz0 : (d0.weights Try.prog 22).all (· ≤ reachBytes) = true := List.all_eq_true.2 fun m hm => List.all_eq_true.1 hsz m (DataW.weights_mem_each (j := 0) rfl rfl m hm)
  obtain ⟨z0, w0, s0⟩ : ∃ zs, Par.Row 0 W a0 len0 zs ∧ len0 ≤ cap0 ∧ cap0 ≤ 140737488351232 ∧ (a0 = none → len0 = 0 ∧ cap0 = 0) := by
    obtain ⟨fuel, hf⟩ := h0
    exact Par.row_arg hf sz0
  clear hA0 hsz0 hsz
  refine (walk a0 len0 cap0 z0 W w0 s0).mono fun e W' ⟨he, bel⟩ => ?_
  subst he
  exact ⟨_, rfl, _, _, _, [], _, [], hW', trodAll_mk1 (shut_bool Try.underlying4 _), (trodAll_cons_mk (Below.trod laidOut (by kernel_rfl) (of_decide_eq_true (by kernel_rfl)) k0 bel lt0) trodAll_mk0), rfl, bel.frame _, fun h => by cases h⟩

noncomputable def laidWorld (os : Os) : World :=
  World.holding Try.prog os ⟨#[], #[], []⟩
theorem laid_met (os : Os) : laidMet Try.prog Rows.paramOwnRow.laid ((laidWorld os).forCall (fun _ _ => 0) ⟨#[], #[.slice none 0 0], []⟩).memory :=
  laidMet_of_run' 8 (by kernel_rfl) (by kernel_rfl)
theorem reads (os : Os) {H : Type} (enc : TypeId × Value → H) : ∃ places, DataW.whole enc Try.prog ((laidWorld os).forCall (fun _ _ => 0) ⟨#[], #[.slice none 0 0], []⟩).memory Try.f3.params.toList Rows.paramOwnSpec.vars false #[Value.slice none 0 0].toList 8 = some ([.nil], [], places) :=
  ⟨[], by kernel_rfl⟩

set_option maxRecDepth 100000 in
theorem lifted (os : Os) (started : os.Started) (H : Type) (enc : TypeId × Value → H) (F : Stop.Interp) :
    ReturnsInHanded {} Try.checked os 3 .any ((OpenSpec.ofChange Rows.paramOwnSpec).preRow enc Try.prog Try.f3 Rows.paramOwnRow.domain false Rows.paramOwnRow.laid) (((OpenSpec.ofChange Rows.paramOwnSpec).at F).post enc Try.prog Try.f3 false true false false) := by
  obtain ⟨places, hx⟩ := reads os enc
  refine returnsInHanded_of_row (C := Try.checked) (s := OpenSpec.ofChange Rows.paramOwnSpec) own started (by kernel_rfl) Try.func3
    (witness_row_at (enc := enc) (C := Try.checked) false (laidWorld os) #[.slice none 0 0] rfl (by kernel_rfl) (by kernel_rfl) (by kernel_rfl)
      (OpenSpec.preRow_of_cond 8 hx (by kernel_rfl) (fun k hk => by cases hk) (by kernel_rfl) (laid_met os))) ?_
  intro W base args ds gs before hval hW _ hcond hsz hL _ _
  exact contract H enc W base args ds gs before hval hW hsz

theorem said : Rows.ParamOwnSaid :=
  OpenClaim.holds_of_cond 3 Try.f3 rfl rfl rfl rfl rfl rfl rfl ⟨rfl, rfl, rfl, rfl, rfl⟩ rfl rfl rfl rfl rfl (by kernel_rfl) Try.func3 (by kernel_rfl)
    (of_decide_eq_true (by kernel_rfl)) (by unfold Func.isWrapper; first | (rw [if_pos (by decide +kernel)]; kernel_rfl) | (rw [if_neg (by decide +kernel)]; exact ⟨rfl, rfl⟩))
    (fun os started H enc _ F => by rw [OpenClaim.pre_eq_preRow]; exact lifted os started H enc F)

/-- THE STATEMENT -/
theorem proved : Rows.ParamOwnSaid := said
#print axioms proved
end Go.Proofs.Ytallpnjjeikamab.paramOwn
