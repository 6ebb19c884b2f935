/-
  What TimersRuns says of every run of operations is true: a table of timers answers as the document's (rules 1 to 10). Conditions: none.
-/
import Derived.Test.YtinhhfnknlmdgaaRows
import Derived.WalkKit
import Derived.ProofKit
import Derived.OpenShut
import Derived.ShutString
import Derived.ChangeOld
import Derived.Below
import Derived.SizedLaws
import Derived.Deep.DeepHandedRow
import Derived.LaidLaws
import Derived.ChangeMaps5
import Derived.Test.YtinhhfnknlmdgaaTmU
import Derived.Test.YtinhhfnknlmdgaaAg
namespace Go.Proofs.Ytinhhfnknlmdgaa.timersRuns
open Go.ChangeShapes Go.WideShapes Go.ChangeAt Go.RowKit
open Go.ChangeMaps (open_string shut_string)
set_option linter.unusedVariables false

theorem own : ownKnob Try.prog.godebug = none := by kernel_rfl
theorem laidOut : laidOutB Try.prog = true := by kernel_rfl

open Ba (hidden Has Only In)
/-- both tables as they begin -/
theorem both_new {w w1 : World} {t : Nat} {F : List Nat} (hT : Tm.Tb w1 t [] 0 F) (hF : ∀ k ∈ F, w.heap.size ≤ k) (hB : Below w.heap.size w w1) :
    Tm.Pr (w1.alloc (.cells #[.slice none 0 0, .int .i64 0] 28)) (F ++ [w1.heap.size]) (w1.alloc (.cells #[.slice none 0 0, .int .i64 0] 28)) t w1.heap.size [] [] 0 0 ∧ (∀ k ∈ F ++ [w1.heap.size], w.heap.size ≤ k) ∧ Below w.heap.size w (w1.alloc (.cells #[.slice none 0 0, .int .i64 0] 28)) := by
  have hB1 : Below w1.heap.size w1 (w1.alloc (.cells #[.slice none 0 0, .int .i64 0] 28)) := (Below.refl _ w1).alloc (Nat.le_refl _) _
  refine ⟨⟨F, [w1.heap.size], hT.later hB1, ⟨.slice none 0 0, by simp [Value.ownBlock], Has.new w1 _ _, World.ownsRow_nil _ _ _ _, by decide⟩, fun k hk hg => ?_, Only.refl _ _, In.refl _ _⟩, fun k hk => ?_, hB.trans (hB1.mono hB.size)⟩
  · have := hT.lt k hk
    simp at hg
    omega
  · rcases List.mem_append.1 hk with hk | hk
    · exact hF k hk
    · simp at hk; have := hB.size; omega
theorem pr_below {w W x : World} {F0 : List Nat} {t r : Nat} {S R : List Tm.D} {l1 l2 : Int} (hF : ∀ k ∈ F0, w.heap.size ≤ k) (hB : Below w.heap.size w W) (h : Tm.Pr W F0 x t r S R l1 l2) : Below w.heap.size w x := by
  obtain ⟨_, _, _, _, _, ho, _⟩ := h
  exact hB.trans (ho.below hB.size hF)
set_option maxHeartbeats 1000000 in

theorem walk (a0 : Option Addr) (len0 cap0 : Nat) (z0 : List (Int × Int × Int)) (w : World) (w0 : Ag.Rows (fun q : Int × Int × Int => [.int .i64 q.1, .int .i64 q.2.1, .int .i64 q.2.2]) (fun q => (Lit.int .i64 q.1).wf = true ∧ (Lit.int .i64 q.2.1).wf = true ∧ (Lit.int .i64 q.2.2).wf = true) 3 w a0 len0 z0) (s0 : len0 ≤ cap0 ∧ cap0 * Try.prog.bytesOf 32 ≤ 140737488351232 ∧ (a0 = none → len0 = 0 ∧ cap0 = 0)) :
    Calls Try.prog 3 #[.slice a0 len0 cap0] w fun e w' => e = .returned (.bool true) ∧ Below w.heap.size w w' := by
  have AW := hidden Tm.awake
  have STP : Hid (∀ (W W' : World) (F : List Nat) (t r : Nat) (S : List Tm.D) (l k id tm : Int), Tm.Pr W F W' t r S S l l → Tm.I64 id → Calls Try.prog 9 #[.pointer (some ⟨t, 0, none⟩), .pointer (some ⟨r, 0, none⟩), .agg #[.int .i64 k, .int .i64 id, .int .i64 tm]] W' fun e w' => Tm.StepO W t r F e w') := fun W W' F t r S l k id tm h hi => Tm.stepF h k id tm hi
  have HN := hidden (Tm.new w)
  have HZ := hidden w0
  have hlen : len0 ≤ 140737488355328 := w0.2.2.1
  clear w0 s0
  go_enter Try.func3, Try.ntmps3
  go_wp2_with fail
  refine Calls.mono HN.out ?_
  rintro e w1 ⟨t, F, rfl, hT, hF, hB⟩
  obtain ⟨g1, g2, g3⟩ := both_new hT hF hB
  obtain ⟨W, hW⟩ : ∃ W, W = w1.alloc (.cells #[.slice none 0 0, .int .i64 0] 28) := ⟨_, rfl⟩
  rw [← hW] at g1 g3
  have HW := hidden hW
  obtain ⟨F0, hF0⟩ : ∃ F0, F0 = F ++ [w1.heap.size] := ⟨_, rfl⟩
  rw [← hF0] at g1 g2
  have HP := hidden g1
  have HBL : Hid (∀ {S R : List Tm.D} {l1 l2 : Int} (x : World), Tm.Pr W F0 x t w1.heap.size S R l1 l2 → Below w.heap.size w x) := fun x hx => pr_below g2 g3 hx
  have HB3 := hidden g3
  clear hT hF hB hW g1 g2 g3 HN hF0
  go_upto_region 2 with fail
  rw [← HW.out]
  go_wp2_with fail
  refine Calls.mono (AW.out _) ?_
  rintro e w2 ⟨rfl, hB2⟩
  have HP2 := hidden (HP.out.later hB2)
  clear hB2 HP HW AW HB3
  go_wp2_with fail
  go_loopw [5] (fun i wr => ∃ (q : Int) (S : List Tm.D) (l : Int), 0 ≤ q ∧ q ≤ (len0 : Int) ∧ i = .int .i64 q ∧ Hid (Tm.Pr W F0 wr t w1.heap.size S S l l)) (fun i _ => len0 - (intOf i).toNat)
  case atStart => exact ⟨0, [], 0, by omega, by omega, rfl, HP2.out⟩
  case round =>
    obtain ⟨q, S, l, j1, j2, rfl, HQ⟩ := hrel
    by_cases hq : q < (len0 : Int)
    · obtain ⟨h1, h2, h3, h4⟩ := HZ.out.later (HBL.out _ HQ.out)
      obtain ⟨z, hz⟩ : ∃ z, z0[q.toNat]? = some z := ⟨_, List.getElem?_eq_getElem (by omega)⟩
      have hok := h2 z (List.mem_of_getElem? hz)
      rcases h4 with h4 | ⟨b, off, rfl, hb, hc⟩
      · omega
      have c0 : wr.cell? ⟨b, off + q.toNat * 3, none⟩ = some (.int .i64 z.1) := hc _ _ hz 0 _ rfl
      have c1 : wr.cell? ⟨b, off + q.toNat * 3 + 1, none⟩ = some (.int .i64 z.2.1) := hc _ _ hz 1 _ rfl
      have c2 : wr.cell? ⟨b, off + q.toNat * 3 + 2, none⟩ = some (.int .i64 z.2.2) := hc _ _ hz 2 _ rfl
      have HOK := hidden hok
      clear h1 h2 h3 hc hz hok
      go_wp2_with fail
      refine Calls.mono (STP.out _ _ _ _ _ _ _ _ _ _ HQ.out (Tm.of_wf64 HOK.out.2.1)) ?_
      rintro e w3 ⟨rfl, S', l', hP'⟩
      have HQ' := hidden hP'
      clear hP' c0 c1 c2
      go_wp2
      go_roundw
      case rel => exact ⟨_, S', l', by omega, by omega, rfl, HQ'.out⟩
      case measure => simp [intOf]; omega
    · go_wp2
      go_ret
      exact ⟨rfl, HBL.out _ HQ.out⟩

theorem contract (H : Type) (enc : TypeId × Value → H) (W : World) (base : Nat) (args : Array Value) (ds gs : List (DataW H)) (before : List MemPlace)
    (hval : ∀ (j : Nat) t v, Try.f3.params[j]? = some t → args[j]? = some v → Value.okWide Try.prog W .any base t v)
    (hW : DataW.Whole enc Try.prog Try.f3.params.toList Rows.timersRunsSpec.vars false W args.toList ds gs before)
    (hsz0 : (DataW.weightsEach Try.prog (Try.f3.params.toList ++ Rows.timersRunsSpec.plain.varTypes Try.prog) (ds ++ gs)).all (· ≤ reachBytes) = true) :
    Calls Try.prog 3 args W fun e W' => ∃ v, e = .returned v ∧ Rows.timersRunsSpec.post enc Try.prog Try.f3 false true false false W args v W' := by
  have hW' := hW
  obtain ⟨p, q, hA0, hV, rfl, hfz, hnd⟩ := hW
  have hA : DataW.TrodAll enc Try.prog W 0 (fun _ => true) true Try.f3.params.toList args.toList ds p := hA0
  have hsz := hsz0
  rw [Try.params3] at hA hval hsz
  obtain ⟨v0, vs0, d0, ds0, p0, q0, hargs, rfl, rfl, h0, r0⟩ := trodAll_cons hA
  obtain ⟨rfl, rfl, rfl⟩ := trodAll_nil r0
  obtain rfl : args = #[v0] := by cases args; simp_all
  obtain ⟨rfl, rfl⟩ := trodVars_none hV
  obtain ⟨a0, len0, cap0, rfl⟩ := okWide_slice Try.underlying22 (hval 0 22 v0 rfl rfl)
  have k0 := h0
  have lt0 : ∀ x ∈ p0, x.block < W.heap.size := by obtain ⟨m, hm⟩ := k0; exact DataW.trod_lt m _ _ _ hm
  have sz0 : (d0.weights Try.prog 22).all (· ≤ reachBytes) = true := List.all_eq_true.2 fun m hm => List.all_eq_true.1 hsz m (DataW.weights_mem_each (j := 0) rfl rfl m hm)
  obtain ⟨z0, w0, s0⟩ : ∃ zs, Ag.Rows (fun q : Int × Int × Int => [.int .i64 q.1, .int .i64 q.2.1, .int .i64 q.2.2]) (fun q => (Lit.int .i64 q.1).wf = true ∧ (Lit.int .i64 q.2.1).wf = true ∧ (Lit.int .i64 q.2.2).wf = true) 3 W a0 len0 zs ∧ len0 ≤ cap0 ∧ cap0 * Try.prog.bytesOf 32 ≤ 140737488351232 ∧ (a0 = none → len0 = 0 ∧ cap0 = 0) := by
    obtain ⟨fuel, hf⟩ := h0
    exact Ag.rows_arg (Ag.kind3 Try.underlying32 (by kernel_rfl) rfl rfl rfl Try.underlying3 Try.underlying3 Try.underlying3 (by kernel_rfl) (by kernel_rfl) (by kernel_rfl)) Try.underlying22 (Nat.le_of_ble_eq_true (by kernel_rfl)) hf sz0
  clear hA0 hsz0 hsz
  refine (walk a0 len0 cap0 z0 W w0 s0).mono fun e W' ⟨he, bel⟩ => ?_
  subst he
  exact ⟨_, rfl, _, _, _, [], _, [], hW', trodAll_mk1 (shut_bool Try.underlying4 _), (trodAll_cons_mk (Below.trod laidOut (by kernel_rfl) (of_decide_eq_true (by kernel_rfl)) k0 bel lt0) trodAll_mk0), rfl, bel.frame _, fun h => by cases h⟩

noncomputable def laidWorld (os : Os) : World :=
  World.holding Try.prog os ⟨#[], #[], []⟩
theorem laid_met (os : Os) : laidMet Try.prog Rows.timersRunsRow.laid ((laidWorld os).forCall (fun _ _ => 0) ⟨#[], #[.slice none 0 0], []⟩).memory :=
  laidMet_of_run' 8 (by kernel_rfl) (by kernel_rfl)
theorem reads (os : Os) {H : Type} (enc : TypeId × Value → H) : ∃ places, DataW.whole enc Try.prog ((laidWorld os).forCall (fun _ _ => 0) ⟨#[], #[.slice none 0 0], []⟩).memory Try.f3.params.toList Rows.timersRunsSpec.vars false #[Value.slice none 0 0].toList 8 = some ([.nil], [], places) :=
  ⟨[], by kernel_rfl⟩

set_option maxRecDepth 100000 in
theorem lifted (os : Os) (started : os.Started) (H : Type) (enc : TypeId × Value → H) (F : Stop.Interp) :
    ReturnsInHanded {} Try.checked os 3 .any ((OpenSpec.ofChange Rows.timersRunsSpec).preRow enc Try.prog Try.f3 Rows.timersRunsRow.domain false Rows.timersRunsRow.laid) (((OpenSpec.ofChange Rows.timersRunsSpec).at F).post enc Try.prog Try.f3 false true false false) := by
  obtain ⟨places, hx⟩ := reads os enc
  refine returnsInHanded_of_row (C := Try.checked) (s := OpenSpec.ofChange Rows.timersRunsSpec) own started (by kernel_rfl) Try.func3
    (witness_row_at (enc := enc) (C := Try.checked) false (laidWorld os) #[.slice none 0 0] rfl (by kernel_rfl) (by kernel_rfl) (by kernel_rfl)
      (OpenSpec.preRow_of_cond 8 hx (by kernel_rfl) (fun k hk => by cases hk) (by kernel_rfl) (laid_met os))) ?_
  intro W base args ds gs before hval hW _ hcond hsz hL _ _
  exact contract H enc W base args ds gs before hval hW hsz

theorem said : Rows.TimersRunsSaid :=
  OpenClaim.holds_of_cond 3 Try.f3 rfl rfl rfl rfl rfl rfl rfl ⟨rfl, rfl, rfl, rfl, rfl⟩ rfl rfl rfl rfl rfl (by kernel_rfl) Try.func3 (by kernel_rfl)
    (of_decide_eq_true (by kernel_rfl)) (by unfold Func.isWrapper; first | (rw [if_pos (by decide +kernel)]; kernel_rfl) | (rw [if_neg (by decide +kernel)]; exact ⟨rfl, rfl⟩))
    (fun os started H enc _ F => by rw [OpenClaim.pre_eq_preRow]; exact lifted os started H enc F)

/-- THE STATEMENT -/
theorem proved : Rows.TimersRunsSaid := said
#print axioms proved
end Go.Proofs.Ytinhhfnknlmdgaa.timersRuns
