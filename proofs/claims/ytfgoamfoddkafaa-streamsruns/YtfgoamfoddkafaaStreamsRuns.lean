/-
  Every answer of a queue is the document's, for every number of streams, every limit and every row of calls.
  Conditions: none.
-/
import Derived.Test.YtfgoamfoddkafaaRows
import Derived.WalkKit
import Derived.ProofKit
import Derived.OpenShut
import Derived.ShutString
import Derived.ChangeOld
import Derived.Below
import Derived.SizedLaws
import Derived.Deep.DeepHandedRow
import Derived.LaidLaws
import Derived.ChangeMaps5
import Derived.Test.YtfgoamfoddkafaaSqX
import Derived.Test.YtfgoamfoddkafaaSqArgs
namespace Go.Proofs.Ytfgoamfoddkafaa.streamsRuns
open Go.ChangeShapes Go.WideShapes Go.ChangeAt Go.RowKit
open Go.ChangeMaps (open_string shut_string)
set_option linter.unusedVariables false

theorem own : ownKnob Try.prog.godebug = none := by kernel_rfl
theorem laidOut : laidOutB Try.prog = true := by kernel_rfl

open Ba (hidden Has cell_lt)
open Sq
set_option maxRecDepth 20000 in
set_option maxHeartbeats 4000000 in

theorem walk (a0 : Int) (a1 : Int) (a2 : Option Addr) (len2 cap2 : Nat) (z2 : List Sq.OA) (w : World) (w0 : (Lit.int .i64 a0).wf = true) (w1 : (Lit.int .i64 a1).wf = true) (w2 : Sq.Ops w a2 len2 z2) (s2 : True) :
    Calls Try.prog 3 #[.int .i64 a0, .int .i64 a1, .slice a2 len2 cap2] w fun e w' => e = .returned (.bool true) ∧ Below w.heap.size w w' := by
  rcases Classical.em (¬ (1 ≤ a0 ∧ a0 ≤ 1024 ∧ 1 ≤ a1 ∧ a1 ≤ 1073741824)) with hok | hok
  · have NE := hidden (new_no a0 a1 hok w)
    have RE := hidden (rnew_no a0 a1 hok w)
    have AW := hidden (awake w)
    clear hok
    go_enter Try.func3, Try.ntmps3
    go_wp2_with fail
    refine Calls.mono NE.out ?_
    rintro e w' ⟨rfl, rfl⟩
    go_wp2_with fail
    refine Calls.mono RE.out ?_
    rintro e w' ⟨rfl, rfl⟩
    go_wp2_with fail
    refine Calls.mono AW.out ?_
    rintro e w' ⟨rfl, hb⟩
    have HB := hidden hb
    clear hb
    go_wp2
    go_ret
    exact ⟨rfl, HB.out⟩
  obtain ⟨o1, o2, o3, o4⟩ := Classical.not_not.1 hok
  clear hok
  have NE := hidden (new (fun _ => True) a0 a1 o1 o2 o3 o4 w)
  have RE : Hid (∀ v : World, Calls Try.prog 10 #[.int .i64 a0, .int .i64 a1] v fun e w' => ∃ r, e = .returned (.tuple #[.pointer (some ⟨r, 0, none⟩), .int .i64 0]) ∧ Rf v.heap.size w' r (newS a0.toNat a1) ∧ Below v.heap.size v w') := fun v => rnew a0 a1 o1 o2 o3 o4 v
  have HW2 := hidden w2
  have hn2 := w2.2.2.1
  clear w0 w1 w2 s2 o1 o2 o3 o4
  go_enter Try.func3, Try.ntmps3
  go_wp2_with fail
  refine Calls.mono NE.out ?_
  rintro e v1 ⟨t, rfl, ⟨F1, hc1, hF1⟩, hB1⟩
  have HC1 := hidden (And.intro hc1 (And.intro hF1 hB1))
  clear hc1 hF1 hB1 NE
  go_wp2_with fail
  refine Calls.mono (RE.out v1) ?_
  rintro e v2 ⟨r, rfl, hrf, hb2⟩
  have H2 : Hid (Bo w.heap.size v2 t r (newS a0.toNat a1) F1 ∧ Below w.heap.size w v2) := by
    obtain ⟨bs, vL, Q, rl, hr⟩ := hrf
    refine ⟨⟨HC1.out.1.later hb2, HC1.out.2.1, bs, vL, Q, rl, hr.q, hr.hs, own_le hr.om HC1.out.2.2.size, hr.by_, Nat.le_trans HC1.out.2.2.size hr.rb, Nat.le_trans HC1.out.2.2.size hr.sb, hr.rel, hr.gd⟩, HC1.out.2.2.trans (hb2.mono HC1.out.2.2.size)⟩
  clear hrf hb2 HC1 RE
  go_wp2_with fail
  refine Calls.mono (awake v2) ?_
  rintro e v3 ⟨rfl, hb3⟩
  have H3 : Hid (Bo w.heap.size v3 t r (newS a0.toNat a1) F1 ∧ Below w.heap.size w v3) := by
    obtain ⟨bs, vL, Q, rl, hr⟩ := H2.out.1.rf
    exact ⟨⟨H2.out.1.cd.later hb3, H2.out.1.fb, bs, vL, Q, rl, hr.later hb3⟩, H2.out.2.trans (hb3.mono H2.out.2.size)⟩
  clear hb3 H2
  go_wp2_with fail
  go_loopw [11] (fun d wr => ∃ (k : Nat) (S : St) (F : Nat → Prop), d = .int .i64 (k : Int) ∧ k ≤ len2 ∧ Hid (Bo w.heap.size wr t r S F ∧ Below w.heap.size w wr)) (fun d wr => len2 - (intOf d).toNat)
  case atStart => exact ⟨0, _, F1, rfl, Nat.zero_le _, H3.out⟩
  case round =>
    obtain ⟨k, S, F, rfl, hk, HI⟩ := hrel
    by_cases hkn : k = len2
    · subst hkn
      go_wp2
      go_ret
      exact ⟨rfl, HI.out.2⟩
    · have hklt : k < len2 := by omega
      have hlt : (k : Int) < (len2 : Int) := by omega
      obtain ⟨b, off, z, rfl, hz, hzok, hcell⟩ := HW2.out.at HI.out.2 hklt
      obtain ⟨kd, st, pr, un, a, l, c, zs, n⟩ := z
      obtain ⟨hrow, hnil, hst, hpr⟩ := hzok
      simp only at hrow hnil hst hpr
      have SP := hidden (step_ (kd := kd) (n := n) (un := un) HI.out.1 HI.out.2 hrow hnil hst hpr)
      have y0 : wr.cell? ⟨b, off + k * 6, none⟩ = some (.int .i64 kd) := hcell 0 _ rfl
      have y1 := hcell 1 _ rfl
      have y2 := hcell 2 _ rfl
      have y3 := hcell 3 _ rfl
      have y4 := hcell 4 _ rfl
      have y5 := hcell 5 _ rfl
      have hw3 : IntKind.i64.wrap ((k : Int) + 1) = (k : Int) + 1 := by rw [IntKind.wrap_i64]; omega
      clear hz hrow hnil hst hpr hcell hkn
      go_wp2_with fail
      refine Calls.mono SP.out ?_
      rintro e w9 ⟨rfl, S', F', hb9, hB9⟩
      have H9 := hidden (And.intro hb9 hB9)
      clear hb9 hB9
      go_wp2
      go_roundw
      case rel => exact ⟨k + 1, S', F', by simp, by omega, H9.out⟩
      case measure => simp only [intOf]; omega

theorem contract (H : Type) (enc : TypeId × Value → H) (W : World) (base : Nat) (args : Array Value) (ds gs : List (DataW H)) (before : List MemPlace)
    (hval : ∀ (j : Nat) t v, Try.f3.params[j]? = some t → args[j]? = some v → Value.okWide Try.prog W .any base t v)
    (hW : DataW.Whole enc Try.prog Try.f3.params.toList Rows.streamsRunsSpec.vars false W args.toList ds gs before)
    (hsz0 : (DataW.weightsEach Try.prog (Try.f3.params.toList ++ Rows.streamsRunsSpec.plain.varTypes Try.prog) (ds ++ gs)).all (· ≤ reachBytes) = true) :
    Calls Try.prog 3 args W fun e W' => ∃ v, e = .returned v ∧ Rows.streamsRunsSpec.post enc Try.prog Try.f3 false true false false W args v W' := by
  have hW' := hW
  obtain ⟨p, q, hA0, hV, rfl, hfz, hnd⟩ := hW
  have hA : DataW.TrodAll enc Try.prog W 0 (fun _ => true) true Try.f3.params.toList args.toList ds p := hA0
  have hsz := hsz0
  rw [Try.params3] at hA hval hsz
  obtain ⟨v0, vs0, d0, ds0, p0, q0, hargs, rfl, rfl, h0, r0⟩ := trodAll_cons hA
  obtain ⟨v1, vs1, d1, ds1, p1, q1, rfl, rfl, rfl, h1, r1⟩ := trodAll_cons r0
  obtain ⟨v2, vs2, d2, ds2, p2, q2, rfl, rfl, rfl, h2, r2⟩ := trodAll_cons r1
  obtain ⟨rfl, rfl, rfl⟩ := trodAll_nil r2
  obtain rfl : args = #[v0, v1, v2] := by cases args; simp_all
  obtain ⟨rfl, rfl⟩ := trodVars_none hV
  obtain ⟨a0, rfl, rfl, rfl, w0⟩ := open_int Try.underlying3 (hval 0 3 v0 rfl rfl) h0
  obtain ⟨a1, rfl, rfl, rfl, w1⟩ := open_int Try.underlying3 (hval 1 3 v1 rfl rfl) h1
  obtain ⟨a2, len2, cap2, rfl⟩ := okWide_slice Try.underlying22 (hval 2 22 v2 rfl rfl)
  have k2 := h2
  have lt2 : ∀ x ∈ p2, x.block < W.heap.size := by obtain ⟨m, hm⟩ := k2; exact DataW.trod_lt m _ _ _ hm
  have sz2 : (d2.weights Try.prog 22).all (· ≤ reachBytes) = true := List.all_eq_true.2 fun m hm => List.all_eq_true.1 hsz m (DataW.weights_mem_each (j := 2) rfl rfl m hm)
  obtain ⟨z2, w2, s2⟩ : ∃ z2, Sq.Ops W a2 len2 z2 ∧ True := by
    obtain ⟨fuel, hf⟩ := h2
    obtain ⟨vs, h1⟩ := Sq.ops_arg hf sz2
    exact ⟨vs, h1, trivial⟩
  clear hA0 hsz0 hsz
  refine (walk a0 a1 a2 len2 cap2 z2 W w0 w1 w2 s2).mono fun e W' ⟨he, bel⟩ => ?_
  subst he
  exact ⟨_, rfl, _, _, _, [], _, [], hW', trodAll_mk1 (shut_bool Try.underlying4 _), (trodAll_cons_mk (shut_int Try.underlying3 w0) (trodAll_cons_mk (shut_int Try.underlying3 w1) (trodAll_cons_mk (Below.trod laidOut (by kernel_rfl) (of_decide_eq_true (by kernel_rfl)) k2 bel lt2) trodAll_mk0))), rfl, bel.frame _, fun h => by cases h⟩

noncomputable def laidWorld (os : Os) : World :=
  World.holding Try.prog os ⟨#[], #[], []⟩
theorem laid_met (os : Os) : laidMet Try.prog Rows.streamsRunsRow.laid ((laidWorld os).forCall (fun _ _ => 0) ⟨#[], #[.int .i64 0, .int .i64 0, .slice none 0 0], []⟩).memory :=
  laidMet_of_run' 8 (by kernel_rfl) (by kernel_rfl)
theorem reads (os : Os) {H : Type} (enc : TypeId × Value → H) : ∃ places, DataW.whole enc Try.prog ((laidWorld os).forCall (fun _ _ => 0) ⟨#[], #[.int .i64 0, .int .i64 0, .slice none 0 0], []⟩).memory Try.f3.params.toList Rows.streamsRunsSpec.vars false #[Value.int .i64 0, Value.int .i64 0, Value.slice none 0 0].toList 8 = some ([.lit (.int .i64 0), .lit (.int .i64 0), .nil], [], places) :=
  ⟨[], by kernel_rfl⟩

set_option maxRecDepth 100000 in
theorem lifted (os : Os) (started : os.Started) (H : Type) (enc : TypeId × Value → H) (F : Stop.Interp) :
    ReturnsInHanded {} Try.checked os 3 .any ((OpenSpec.ofChange Rows.streamsRunsSpec).preRow enc Try.prog Try.f3 Rows.streamsRunsRow.domain false Rows.streamsRunsRow.laid) (((OpenSpec.ofChange Rows.streamsRunsSpec).at F).post enc Try.prog Try.f3 false true false false) := by
  obtain ⟨places, hx⟩ := reads os enc
  refine returnsInHanded_of_row (C := Try.checked) (s := OpenSpec.ofChange Rows.streamsRunsSpec) own started (by kernel_rfl) Try.func3
    (witness_row_at (enc := enc) (C := Try.checked) false (laidWorld os) #[.int .i64 0, .int .i64 0, .slice none 0 0] rfl (by kernel_rfl) (by kernel_rfl) (by kernel_rfl)
      (OpenSpec.preRow_of_cond 8 hx (by kernel_rfl) (fun k hk => by cases hk) (by kernel_rfl) (laid_met os))) ?_
  intro W base args ds gs before hval hW _ hcond hsz hL _ _
  exact contract H enc W base args ds gs before hval hW hsz

theorem said : Rows.StreamsRunsSaid :=
  OpenClaim.holds_of_cond 3 Try.f3 rfl rfl rfl rfl rfl rfl rfl ⟨rfl, rfl, rfl, rfl, rfl⟩ rfl rfl rfl rfl rfl (by kernel_rfl) Try.func3 (by kernel_rfl)
    (of_decide_eq_true (by kernel_rfl)) (by unfold Func.isWrapper; first | (rw [if_pos (by decide +kernel)]; kernel_rfl) | (rw [if_neg (by decide +kernel)]; exact ⟨rfl, rfl⟩))
    (fun os started H enc _ F => by rw [OpenClaim.pre_eq_preRow]; exact lifted os started H enc F)

/-- THE STATEMENT -/
theorem proved : Rows.StreamsRunsSaid := said
#print axioms proved
end Go.Proofs.Ytfgoamfoddkafaa.streamsRuns
