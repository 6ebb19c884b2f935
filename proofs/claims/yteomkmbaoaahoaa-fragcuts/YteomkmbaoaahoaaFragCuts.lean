/-
  What Cut and Count tell of every message and every number is what the document tells.
  Conditions: none but those of the statement.
-/
import Derived.Test.YteomkmbaoaahoaaRows
import Derived.WalkKit
import Derived.ProofKit
import Derived.OpenShut
import Derived.ShutString
import Derived.ChangeOld
import Derived.Below
import Derived.SizedLaws
import Derived.Deep.DeepHandedRow
import Derived.LaidLaws
import Derived.ChangeMaps5
import Derived.Test.YteomkmbaoaahoaaFrE
import Derived.Test.YteomkmbaoaahoaaFrL
import Derived.Test.YteomkmbaoaahoaaFrArgs
namespace Go.Proofs.Yteomkmbaoaahoaa.fragCuts
open Go.ChangeShapes Go.WideShapes Go.ChangeAt Go.RowKit
open Go.ChangeMaps (open_string shut_string)
set_option linter.unusedVariables false

theorem own : ownKnob Try.prog.godebug = none := by kernel_rfl
theorem laidOut : laidOutB Try.prog = true := by kernel_rfl

theorem walk (a0 : Option Addr) (len0 cap0 : Nat) (z0 : List Int) (a1 : Int) (a2 : Int) (w : World) (w0 : Fr.Row w a0 len0 z0) (s0 : len0 ≤ cap0 ∧ cap0 ≤ 140737488351232 ∧ (a0 = none → len0 = 0 ∧ cap0 = 0)) (w1 : (Lit.int .i64 a1).wf = true) (w2 : (Lit.int .i64 a2).wf = true) :
    Calls Try.prog 3 #[.slice a0 len0 cap0, .int .i64 a1, .int .i64 a2] w fun e w' => e = .returned (.bool true) ∧ Below w.heap.size w w' := by
  have h0 : len0 ≤ 140737488355328 := w0.2.2.1
  have CO : ∀ x : World, ∃ c g : Int, Calls Try.prog 11 #[.int .i64 a2, .int .i64 a1] x (fun e w' => e = .returned (.tuple #[.int .i64 c, .int .i64 g]) ∧ x = w') ∧ Calls Try.prog 12 #[.int .i64 a2, .int .i64 a1] x (fun e w' => e = .returned (.tuple #[.int .i64 c, .int .i64 g]) ∧ x = w') := by
    intro x
    by_cases h1 : a1 < 1 ∨ 65536 < a1 ∨ a2 < 1
    · exact ⟨0, 1, Fr.count_arg h1 x, Fr.rcount_arg h1 x⟩
    · by_cases h2 : 65536 < a2
      · exact ⟨0, 2, Fr.count_long (by omega) (by omega) h2 x, Fr.rcount_long (by omega) (by omega) h2 x⟩
      · obtain ⟨n, rfl⟩ : ∃ n : Nat, a1 = (n : Int) := ⟨a1.toNat, by omega⟩
        obtain ⟨z, rfl⟩ : ∃ n : Nat, a2 = (n : Int) := ⟨a2.toNat, by omega⟩
        exact ⟨_, 0, Fr.count_ok (by omega) (by omega) (by omega) (by omega) x, Fr.rcount_ok (by omega) (by omega) (by omega) (by omega) x⟩
  have CU : ∀ x : World, Fr.Row x a0 len0 z0 → ∃ (vs : List Fr.V) (er : Int), vs.length ≤ 65536 ∧ Calls Try.prog 9 #[.slice a0 len0 cap0, .int .i64 a1] x (fun e w' => ∃ pa pc, e = .returned (.tuple #[.slice pa vs.length pc, .int .i64 er]) ∧ Fr.Pcs w' pa vs.length vs ∧ Below x.heap.size x w') ∧ ∀ y, Below x.heap.size x y → Calls Try.prog 10 #[.slice a0 len0 cap0, .int .i64 a1] y (fun e w' => ∃ pa pc, e = .returned (.tuple #[.slice pa vs.length pc, .int .i64 er]) ∧ Fr.Pcs w' pa vs.length vs ∧ Below y.heap.size y w') := by
    intro x hx
    have hno : ∀ (y : World) (er : Int) (e : Ending) (w' : World), (e = .returned (.tuple #[.slice none 0 0, .int .i64 er]) ∧ y = w') → ∃ pa pc, e = .returned (.tuple #[.slice pa ([] : List Fr.V).length pc, .int .i64 er]) ∧ Fr.Pcs w' pa ([] : List Fr.V).length [] ∧ Below y.heap.size y w' := by
      rintro y er e w' ⟨rfl, rfl⟩
      exact ⟨none, 0, rfl, Fr.Pcs.nil _ _, Below.refl _ _⟩
    by_cases h1 : a1 < 1 ∨ 65536 < a1 ∨ (len0 : Int) < 1
    · exact ⟨[], 1, by decide, (Fr.cut_arg h0 h1).mono (hno x 1), fun y _ => (Fr.rcut_arg h0 h1).mono (hno y 1)⟩
    · by_cases h2 : (65536 : Int) < len0
      · exact ⟨[], 2, by decide, (Fr.cut_long h0 (by omega) (by omega) h2).mono (hno x 2), fun y _ => (Fr.rcut_long h0 (by omega) (by omega) h2).mono (hno y 2)⟩
      · obtain ⟨n, rfl⟩ : ∃ n : Nat, a1 = (n : Int) := ⟨a1.toNat, by omega⟩
        have hlen : (Fr.cutV z0 n).length ≤ 65536 := by
          rw [Fr.cutV_len]
          have := Fr.cnt_le (len := z0.length) (n := n) (by omega)
          have := hx.1
          omega
        have hyes : ∀ (y : World) (e : Ending) (w' : World), Fr.CutO y z0 n e w' → ∃ pa pc, e = .returned (.tuple #[.slice pa (Fr.cutV z0 n).length pc, .int .i64 0]) ∧ Fr.Pcs w' pa (Fr.cutV z0 n).length (Fr.cutV z0 n) ∧ Below y.heap.size y w' := by
          rintro y e w' ⟨v, ps, rfl, hl, hv, hb⟩
          have hpl : ps.length = (Fr.cutV z0 n).length := by rw [← hv, List.length_map]
          obtain ⟨pa, pc, rfl, hp, _⟩ := hl.row (by omega)
          rw [hv, hpl] at hp
          rw [hpl]
          exact ⟨pa, pc, rfl, hp, hb⟩
        exact ⟨Fr.cutV z0 n, 0, hlen, (Fr.cut_ok hx s0.1 (by omega) (by omega) (by omega) (by omega)).mono (hyes x), fun y hb => (Fr.rcut_ok (hx.later hb) s0.1 (by omega) (by omega) (by omega) (by omega)).mono (hyes y)⟩
  obtain ⟨vs, er, hvl, C1, C2⟩ := CU w w0
  have HC1 := Ba.hidden C1
  have HC2 := Ba.hidden C2
  have HCO := Ba.hidden CO
  clear C1 C2 CU CO
  generalize vs.length = L at *
  go_enter Try.func3, Try.ntmps3
  go_wp2_with fail
  refine Calls.mono HC1.out ?_
  rintro e w1 ⟨pa, pc, rfl, hp1, b1⟩
  have HP1 := Ba.hidden hp1
  have HB1 := Ba.hidden b1
  clear hp1 HC1
  go_wp2_with fail
  refine Calls.mono (HC2.out _ b1) ?_
  rintro e w2 ⟨qa, qc, rfl, hp2, b2⟩
  have HP := Ba.hidden (HP1.out.later b2)
  have HQ := Ba.hidden hp2
  have HB2 := Ba.hidden (HB1.out.trans (b2.mono HB1.out.size))
  obtain ⟨c, g, K1, K2⟩ := HCO.out w2
  have HK1 := Ba.hidden K1
  have HK2 := Ba.hidden K2
  have SA := Ba.hidden (Fr.rsame (pcap := pc) (qcap := qc) HP.out HQ.out)
  clear hp2 b1 b2 HP1 HC2 HB1 HCO K1 K2 HP HQ
  go_wp2_with fail
  refine Calls.mono HK1.out ?_
  rintro e w3 ⟨rfl, rfl⟩
  go_wp2_with fail
  refine Calls.mono HK2.out ?_
  rintro e w3 ⟨rfl, rfl⟩
  clear HK1 HK2
  go_wp2_with fail
  refine Calls.mono SA.out ?_
  rintro e w3 ⟨rfl, b3⟩
  have HB3 := Ba.hidden (HB2.out.trans (b3.mono HB2.out.size))
  clear b3 SA HB2
  go_wp2_with fail
  refine Calls.mono (Fr.alive _) ?_
  rintro e w4 ⟨rfl, b4⟩
  have HB4 := Ba.hidden (HB3.out.trans (b4.mono HB3.out.size))
  clear b4 HB3
  go_wp2
  go_ret
  exact ⟨rfl, HB4.out⟩

theorem contract (H : Type) (enc : TypeId × Value → H) (W : World) (base : Nat) (args : Array Value) (ds gs : List (DataW H)) (before : List MemPlace)
    (hval : ∀ (j : Nat) t v, Try.f3.params[j]? = some t → args[j]? = some v → Value.okWide Try.prog W .any base t v)
    (hW : DataW.Whole enc Try.prog Try.f3.params.toList Rows.fragCutsSpec.vars false W args.toList ds gs before)
    (hsz0 : (DataW.weightsEach Try.prog (Try.f3.params.toList ++ Rows.fragCutsSpec.plain.varTypes Try.prog) (ds ++ gs)).all (· ≤ reachBytes) = true) :
    Calls Try.prog 3 args W fun e W' => ∃ v, e = .returned v ∧ Rows.fragCutsSpec.post enc Try.prog Try.f3 false true false false W args v W' := by
  have hW' := hW
  obtain ⟨p, q, hA0, hV, rfl, hfz, hnd⟩ := hW
  have hA : DataW.TrodAll enc Try.prog W 0 (fun _ => true) true Try.f3.params.toList args.toList ds p := hA0
  have hsz := hsz0
  rw [Try.params3] at hA hval hsz
  obtain ⟨v0, vs0, d0, ds0, p0, q0, hargs, rfl, rfl, h0, r0⟩ := trodAll_cons hA
  obtain ⟨v1, vs1, d1, ds1, p1, q1, rfl, rfl, rfl, h1, r1⟩ := trodAll_cons r0
  obtain ⟨v2, vs2, d2, ds2, p2, q2, rfl, rfl, rfl, h2, r2⟩ := trodAll_cons r1
  obtain ⟨rfl, rfl, rfl⟩ := trodAll_nil r2
  obtain rfl : args = #[v0, v1, v2] := by cases args; simp_all
  obtain ⟨rfl, rfl⟩ := trodVars_none hV
  obtain ⟨a0, len0, cap0, rfl⟩ := okWide_slice Try.underlying22 (hval 0 22 v0 rfl rfl)
  have k0 := h0
  have lt0 : ∀ x ∈ p0, x.block < W.heap.size := by obtain ⟨m, hm⟩ := k0; exact DataW.trod_lt m _ _ _ hm
  have sz0 : (d0.weights Try.prog 22).all (· ≤ reachBytes) = true := List.all_eq_true.2 fun m hm => List.all_eq_true.1 hsz m (DataW.weights_mem_each (j := 0) rfl rfl m hm)
  obtain ⟨z0, w0, s0⟩ : ∃ z0, Fr.Row W a0 len0 z0 ∧ len0 ≤ cap0 ∧ cap0 ≤ 140737488351232 ∧ (a0 = none → len0 = 0 ∧ cap0 = 0) := by
    obtain ⟨fuel, hf⟩ := h0
    exact Fr.row_arg hf sz0
  obtain ⟨a1, rfl, rfl, rfl, w1⟩ := open_int Try.underlying3 (hval 1 3 v1 rfl rfl) h1
  obtain ⟨a2, rfl, rfl, rfl, w2⟩ := open_int Try.underlying3 (hval 2 3 v2 rfl rfl) h2
  clear hA0 hsz0 hsz
  refine (walk a0 len0 cap0 z0 a1 a2 W w0 s0 w1 w2).mono fun e W' ⟨he, bel⟩ => ?_
  subst he
  exact ⟨_, rfl, _, _, _, [], _, [], hW', trodAll_mk1 (shut_bool Try.underlying4 _), (trodAll_cons_mk (Below.trod laidOut (by kernel_rfl) (of_decide_eq_true (by kernel_rfl)) k0 bel lt0) (trodAll_cons_mk (shut_int Try.underlying3 w1) (trodAll_cons_mk (shut_int Try.underlying3 w2) trodAll_mk0))), rfl, bel.frame _, fun h => by cases h⟩

noncomputable def laidWorld (os : Os) : World :=
  World.holding Try.prog os ⟨#[], #[], []⟩
theorem laid_met (os : Os) : laidMet Try.prog Rows.fragCutsRow.laid ((laidWorld os).forCall (fun _ _ => 0) ⟨#[], #[.slice none 0 0, .int .i64 0, .int .i64 0], []⟩).memory :=
  laidMet_of_run' 8 (by kernel_rfl) (by kernel_rfl)
theorem reads (os : Os) {H : Type} (enc : TypeId × Value → H) : ∃ places, DataW.whole enc Try.prog ((laidWorld os).forCall (fun _ _ => 0) ⟨#[], #[.slice none 0 0, .int .i64 0, .int .i64 0], []⟩).memory Try.f3.params.toList Rows.fragCutsSpec.vars false #[Value.slice none 0 0, Value.int .i64 0, Value.int .i64 0].toList 8 = some ([.nil, .lit (.int .i64 0), .lit (.int .i64 0)], [], places) :=
  ⟨[], by kernel_rfl⟩

set_option maxRecDepth 100000 in
theorem lifted (os : Os) (started : os.Started) (H : Type) (enc : TypeId × Value → H) (F : Stop.Interp) :
    ReturnsInHanded {} Try.checked os 3 .any ((OpenSpec.ofChange Rows.fragCutsSpec).preRow enc Try.prog Try.f3 Rows.fragCutsRow.domain false Rows.fragCutsRow.laid) (((OpenSpec.ofChange Rows.fragCutsSpec).at F).post enc Try.prog Try.f3 false true false false) := by
  obtain ⟨places, hx⟩ := reads os enc
  refine returnsInHanded_of_row (C := Try.checked) (s := OpenSpec.ofChange Rows.fragCutsSpec) own started (by kernel_rfl) Try.func3
    (witness_row_at (enc := enc) (C := Try.checked) false (laidWorld os) #[.slice none 0 0, .int .i64 0, .int .i64 0] rfl (by kernel_rfl) (by kernel_rfl) (by kernel_rfl)
      (OpenSpec.preRow_of_cond 8 hx (by kernel_rfl) (fun k hk => by cases hk) (by kernel_rfl) (laid_met os))) ?_
  intro W base args ds gs before hval hW _ hcond hsz hL _ _
  exact contract H enc W base args ds gs before hval hW hsz

theorem said : Rows.FragCutsSaid :=
  OpenClaim.holds_of_cond 3 Try.f3 rfl rfl rfl rfl rfl rfl rfl ⟨rfl, rfl, rfl, rfl, rfl⟩ rfl rfl rfl rfl rfl (by kernel_rfl) Try.func3 (by kernel_rfl)
    (of_decide_eq_true (by kernel_rfl)) (by unfold Func.isWrapper; first | (rw [if_pos (by decide +kernel)]; kernel_rfl) | (rw [if_neg (by decide +kernel)]; exact ⟨rfl, rfl⟩))
    (fun os started H enc _ F => by rw [OpenClaim.pre_eq_preRow]; exact lifted os started H enc F)

/-- THE STATEMENT -/
theorem proved : Rows.FragCutsSaid := said
#print axioms proved
end Go.Proofs.Yteomkmbaoaahoaa.fragCuts
