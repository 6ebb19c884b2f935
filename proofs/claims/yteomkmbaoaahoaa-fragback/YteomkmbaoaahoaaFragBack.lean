/-
  A message's pieces put together are the message, however long they are.
  Conditions: none but those of the statement.
-/
import Derived.Test.YteomkmbaoaahoaaRows
import Derived.WalkKit
import Derived.ProofKit
import Derived.OpenShut
import Derived.ShutString
import Derived.ChangeOld
import Derived.Below
import Derived.SizedLaws
import Derived.Deep.DeepHandedRow
import Derived.LaidLaws
import Derived.ChangeMaps5
import Derived.Test.YteomkmbaoaahoaaFrD
import Derived.Test.YteomkmbaoaahoaaFrL
import Derived.Test.YteomkmbaoaahoaaFrArgs
namespace Go.Proofs.Yteomkmbaoaahoaa.fragBack
open Go.ChangeShapes Go.WideShapes Go.ChangeAt Go.RowKit
open Go.ChangeMaps (open_string shut_string)
set_option linter.unusedVariables false

theorem own : ownKnob Try.prog.godebug = none := by kernel_rfl
theorem laidOut : laidOutB Try.prog = true := by kernel_rfl

theorem no (w : World) (a : Option Addr) (len cap : Nat) (N er : Int) (her : ¬ er = 0) (h : Calls Try.prog 9 #[.slice a len cap, .int .i64 N] w fun e w' => e = .returned (.tuple #[.slice none 0 0, .int .i64 er]) ∧ w = w') :
    Calls Try.prog 6 #[.slice a len cap, .int .i64 N] w fun e w' => e = .returned (.bool true) ∧ Below w.heap.size w w' := by
  have H := Ba.hidden h
  clear h
  go_enter Try.func6, Try.ntmps6
  go_wp2_with fail
  refine Calls.mono H.out ?_
  rintro e w1 ⟨rfl, rfl⟩
  go_wp2_with fail
  refine Calls.mono (Fr.alive _) ?_
  rintro e w4 ⟨rfl, b4⟩
  have HB4 := Ba.hidden b4
  clear b4
  go_wp2
  go_ret
  exact ⟨rfl, HB4.out⟩
set_option maxHeartbeats 2000000 in

theorem walk (a0 : Option Addr) (len0 cap0 : Nat) (z0 : List Int) (a1 : Int) (w : World) (w0 : Fr.Row w a0 len0 z0) (s0 : len0 ≤ cap0 ∧ cap0 ≤ 140737488351232 ∧ (a0 = none → len0 = 0 ∧ cap0 = 0)) (w1 : (Lit.int .i64 a1).wf = true) :
    Calls Try.prog 6 #[.slice a0 len0 cap0, .int .i64 a1] w fun e w' => e = .returned (.bool true) ∧ Below w.heap.size w w' := by
  have h0 : len0 ≤ 140737488355328 := w0.2.2.1
  by_cases h1 : a1 < 1 ∨ 65536 < a1 ∨ (len0 : Int) < 1
  · exact no w a0 len0 cap0 a1 1 (by decide) (Fr.cut_arg h0 h1)
  by_cases h2 : (65536 : Int) < len0
  · exact no w a0 len0 cap0 a1 2 (by decide) (Fr.cut_long h0 (by omega) (by omega) h2)
  obtain ⟨n, rfl⟩ : ∃ n : Nat, a1 = (n : Int) := ⟨a1.toNat, by omega⟩
  have hzl : z0.length = len0 := w0.1
  have hn1 : 1 ≤ n := by omega
  have hn2 : n ≤ 65536 := by omega
  have CU := Ba.hidden (Fr.cut_ok w0 s0.1 hn1 hn2 (by omega) (by omega))
  have H0 := Ba.hidden w0
  have HJC := Ba.hidden (Fr.cut_join (zs := z0) hn1 (by omega) (by omega))
  have hcl : (Fr.cutV z0 n).length ≤ 65536 := by
    rw [Fr.cutV_len]
    have := Fr.cnt_le (len := z0.length) (n := n) hn1
    omega
  clear w0 h1 h2
  go_enter Try.func6, Try.ntmps6
  go_wp2_with fail
  refine Calls.mono CU.out ?_
  rintro e w1 ⟨v, ps, rfl, hp, hv, b1⟩
  have hpl : ps.length = (Fr.cutV z0 n).length := by rw [← hv, List.length_map]
  obtain ⟨pa, pc, rfl, hpc, _⟩ := hp.row (by omega)
  rw [hv, hpl] at hpc
  rw [hpl]
  have HPC := Ba.hidden hpc
  have HB1 := Ba.hidden b1
  obtain ⟨C, hC⟩ : ∃ C, C = (Fr.cutV z0 n).length := ⟨_, rfl⟩
  rw [← hC] at HPC ⊢
  have hC6 : C ≤ 65536 := by omega
  have HC := Ba.hidden hC
  clear hp hv hpc b1 CU hpl hcl hC
  go_wp2_with fail
  go_loopw [7] (fun i wr => ∃ k : Nat, k ≤ C ∧ i = .int .i64 k ∧ wr = w1) (fun i _ => C - (intOf i).toNat)
  case atStart => exact ⟨0, Nat.zero_le _, rfl, rfl⟩
  case round =>
    obtain ⟨k, hk, rfl, rfl⟩ := hrel
    rcases Nat.lt_or_ge k C with hlt | hge
    · obtain ⟨b, off, bg, en, zs, a, cap, rfl, hpk, c0, c1, c2, hr⟩ := HPC.out.get hlt
      obtain ⟨hj, e⟩ := Fr.cutV_get hpk
      have hl := Fr.cutJ_len (zs := z0) hn1 hj
      rw [← e] at hl
      rw [Fr.cutV_len] at HC
      rw [← HC.out] at hl
      obtain ⟨l1, l2, l3, _⟩ := hl
      simp only at l1 l2 l3
      generalize zs.length = Z at *
      have hz1 : ¬ (n : Int) < Z := by omega
      clear hpk hr e hj
      by_cases hk1 : k + 1 < C
      · have hk2 : (k : Int) < (C : Int) - 1 := by omega
        have hz2 : ¬ (Z : Int) < n := by have := l3 hk1; omega
        clear l3
        go_wp2
        go_roundw
        case rel => exact ⟨k + 1, by omega, by go_num, by trivial⟩
        case measure => simp [intOf]; omega
      · have hk2 : ¬ (k : Int) < (C : Int) - 1 := by omega
        clear l3
        go_wp2
        go_roundw
        case rel => exact ⟨k + 1, by omega, by go_num, by trivial⟩
        case measure => simp [intOf]; omega
    · obtain rfl : k = C := by omega
      have JN := Ba.hidden (Fr.join (pcap := pc) HPC.out (by rw [Fr.cutV_flat hn1]; omega))
      go_wp2_with fail
      refine Calls.mono JN.out ?_
      rintro e w2 ⟨v, bs, i, er, rfl, hj, hm, b2⟩
      obtain ⟨rfl, rfl, rfl⟩ := hj.unique HJC.out
      obtain ⟨a, c, rfl, hr, _⟩ := hm.row
      have hcv := hr.conv c
      have HB2 := Ba.hidden (HB1.out.trans (b2.mono HB1.out.size))
      have hcv' := (H0.out.later HB2.out).conv cap0
      clear hj hm hr b2 JN HB1 H0 HPC HJC HC
      rw [hzl] at hcv ⊢
      clear hzl
      generalize strOfNums bs = S at *
      go_wp2_with fail
      refine Calls.mono (Fr.alive _) ?_
      rintro e w4 ⟨rfl, b4⟩
      have HB4 := Ba.hidden (HB2.out.trans (b4.mono HB2.out.size))
      clear b4 HB2
      go_wp2
      go_ret
      exact ⟨rfl, HB4.out⟩

theorem contract (H : Type) (enc : TypeId × Value → H) (W : World) (base : Nat) (args : Array Value) (ds gs : List (DataW H)) (before : List MemPlace)
    (hval : ∀ (j : Nat) t v, Try.f6.params[j]? = some t → args[j]? = some v → Value.okWide Try.prog W .any base t v)
    (hW : DataW.Whole enc Try.prog Try.f6.params.toList Rows.fragBackSpec.vars false W args.toList ds gs before)
    (hsz0 : (DataW.weightsEach Try.prog (Try.f6.params.toList ++ Rows.fragBackSpec.plain.varTypes Try.prog) (ds ++ gs)).all (· ≤ reachBytes) = true) :
    Calls Try.prog 6 args W fun e W' => ∃ v, e = .returned v ∧ Rows.fragBackSpec.post enc Try.prog Try.f6 false true false false W args v W' := by
  have hW' := hW
  obtain ⟨p, q, hA0, hV, rfl, hfz, hnd⟩ := hW
  have hA : DataW.TrodAll enc Try.prog W 0 (fun _ => true) true Try.f6.params.toList args.toList ds p := hA0
  have hsz := hsz0
  rw [Try.params6] at hA hval hsz
  obtain ⟨v0, vs0, d0, ds0, p0, q0, hargs, rfl, rfl, h0, r0⟩ := trodAll_cons hA
  obtain ⟨v1, vs1, d1, ds1, p1, q1, rfl, rfl, rfl, h1, r1⟩ := trodAll_cons r0
  obtain ⟨rfl, rfl, rfl⟩ := trodAll_nil r1
  obtain rfl : args = #[v0, v1] := by cases args; simp_all
  obtain ⟨rfl, rfl⟩ := trodVars_none hV
  obtain ⟨a0, len0, cap0, rfl⟩ := okWide_slice Try.underlying22 (hval 0 22 v0 rfl rfl)
  have k0 := h0
  have lt0 : ∀ x ∈ p0, x.block < W.heap.size := by obtain ⟨m, hm⟩ := k0; exact DataW.trod_lt m _ _ _ hm
  have sz0 : (d0.weights Try.prog 22).all (· ≤ reachBytes) = true := List.all_eq_true.2 fun m hm => List.all_eq_true.1 hsz m (DataW.weights_mem_each (j := 0) rfl rfl m hm)
  obtain ⟨z0, w0, s0⟩ : ∃ z0, Fr.Row W a0 len0 z0 ∧ len0 ≤ cap0 ∧ cap0 ≤ 140737488351232 ∧ (a0 = none → len0 = 0 ∧ cap0 = 0) := by
    obtain ⟨fuel, hf⟩ := h0
    exact Fr.row_arg hf sz0
  obtain ⟨a1, rfl, rfl, rfl, w1⟩ := open_int Try.underlying3 (hval 1 3 v1 rfl rfl) h1
  clear hA0 hsz0 hsz
  refine (walk a0 len0 cap0 z0 a1 W w0 s0 w1).mono fun e W' ⟨he, bel⟩ => ?_
  subst he
  exact ⟨_, rfl, _, _, _, [], _, [], hW', trodAll_mk1 (shut_bool Try.underlying4 _), (trodAll_cons_mk (Below.trod laidOut (by kernel_rfl) (of_decide_eq_true (by kernel_rfl)) k0 bel lt0) (trodAll_cons_mk (shut_int Try.underlying3 w1) trodAll_mk0)), rfl, bel.frame _, fun h => by cases h⟩

noncomputable def laidWorld (os : Os) : World :=
  World.holding Try.prog os ⟨#[], #[], []⟩
theorem laid_met (os : Os) : laidMet Try.prog Rows.fragBackRow.laid ((laidWorld os).forCall (fun _ _ => 0) ⟨#[], #[.slice none 0 0, .int .i64 0], []⟩).memory :=
  laidMet_of_run' 8 (by kernel_rfl) (by kernel_rfl)
theorem reads (os : Os) {H : Type} (enc : TypeId × Value → H) : ∃ places, DataW.whole enc Try.prog ((laidWorld os).forCall (fun _ _ => 0) ⟨#[], #[.slice none 0 0, .int .i64 0], []⟩).memory Try.f6.params.toList Rows.fragBackSpec.vars false #[Value.slice none 0 0, Value.int .i64 0].toList 8 = some ([.nil, .lit (.int .i64 0)], [], places) :=
  ⟨[], by kernel_rfl⟩

set_option maxRecDepth 100000 in
theorem lifted (os : Os) (started : os.Started) (H : Type) (enc : TypeId × Value → H) (F : Stop.Interp) :
    ReturnsInHanded {} Try.checked os 6 .any ((OpenSpec.ofChange Rows.fragBackSpec).preRow enc Try.prog Try.f6 Rows.fragBackRow.domain false Rows.fragBackRow.laid) (((OpenSpec.ofChange Rows.fragBackSpec).at F).post enc Try.prog Try.f6 false true false false) := by
  obtain ⟨places, hx⟩ := reads os enc
  refine returnsInHanded_of_row (C := Try.checked) (s := OpenSpec.ofChange Rows.fragBackSpec) own started (by kernel_rfl) Try.func6
    (witness_row_at (enc := enc) (C := Try.checked) false (laidWorld os) #[.slice none 0 0, .int .i64 0] rfl (by kernel_rfl) (by kernel_rfl) (by kernel_rfl)
      (OpenSpec.preRow_of_cond 8 hx (by kernel_rfl) (fun k hk => by cases hk) (by kernel_rfl) (laid_met os))) ?_
  intro W base args ds gs before hval hW _ hcond hsz hL _ _
  exact contract H enc W base args ds gs before hval hW hsz

theorem said : Rows.FragBackSaid :=
  OpenClaim.holds_of_cond 6 Try.f6 rfl rfl rfl rfl rfl rfl rfl ⟨rfl, rfl, rfl, rfl, rfl⟩ rfl rfl rfl rfl rfl (by kernel_rfl) Try.func6 (by kernel_rfl)
    (of_decide_eq_true (by kernel_rfl)) (by unfold Func.isWrapper; first | (rw [if_pos (by decide +kernel)]; kernel_rfl) | (rw [if_neg (by decide +kernel)]; exact ⟨rfl, rfl⟩))
    (fun os started H enc _ F => by rw [OpenClaim.pre_eq_preRow]; exact lifted os started H enc F)

/-- THE STATEMENT -/
theorem proved : Rows.FragBackSaid := said
#print axioms proved
end Go.Proofs.Yteomkmbaoaahoaa.fragBack
