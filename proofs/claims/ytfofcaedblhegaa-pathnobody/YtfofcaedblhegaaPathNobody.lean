/-
  What PathNobody says of every call is true: a path that is nil, or that no call made, refuses all (rule 3). Conditions: none.
-/
import Derived.Test.YtfofcaedblhegaaRows
import Derived.WalkKit
import Derived.ProofKit
import Derived.OpenShut
import Derived.ShutString
import Derived.ChangeOld
import Derived.Below
import Derived.SizedLaws
import Derived.Deep.DeepHandedRow
import Derived.LaidLaws
import Derived.ChangeMaps5
import Derived.Test.YtfofcaedblhegaaPaD
import Derived.Test.YtfofcaedblhegaaAg
namespace Go.Proofs.Ytfofcaedblhegaa.pathNobody
open Go.ChangeShapes Go.WideShapes Go.ChangeAt Go.RowKit
open Go.ChangeMaps (open_string shut_string)
set_option linter.unusedVariables false

theorem own : ownKnob Try.prog.godebug = none := by kernel_rfl
theorem laidOut : laidOutB Try.prog = true := by kernel_rfl

open Ba (hidden Has)
open Ow (Own)
open Pa
/-- the path that nobody made, and the row of both -/
abbrev LN (w : World) : List Ow.Bk := [(w.heap.size + 1, #[.pointer none, .pointer (some ⟨w.heap.size, 0, none⟩)], 25), (w.heap.size, #[.int .i64 0, .int .i64 0, .int .i64 0, .int .u32 0, .bool false, .int .i64 0, .int .i64 0, .int .i64 0], 56)]
theorem ownN (w : World) : Own w ((w.alloc (.cells #[.int .i64 0, .int .i64 0, .int .i64 0, .int .u32 0, .bool false, .int .i64 0, .int .i64 0, .int .i64 0] 56)).alloc (.cells #[.pointer none, .pointer (some ⟨w.heap.size, 0, none⟩)] 25)) (LN w) := by
  have h := ((Own.refl w).alloc #[.int .i64 0, .int .i64 0, .int .i64 0, .int .u32 0, .bool false, .int .i64 0, .int .i64 0, .int .i64 0] 56).alloc #[.pointer none, .pointer (some ⟨w.heap.size, 0, none⟩)] 25
  simpa using h
theorem pickN {w W : World} (h : Own w W (LN w)) {q : Int} (h1 : 0 ≤ q) (h2 : q < 2) : ∃ p, Nobody W p ∧ W.cell? ⟨w.heap.size + 1, q.toNat, none⟩ = some (.pointer p) ∧ w.heap.size + 1 < W.heap.size := by
  have : q = 0 ∨ q = 1 := by omega
  have hl := h.lt (.head _)
  rcases this with rfl | rfl
  · exact ⟨none, .inl rfl, h.cell (.head _) 0 rfl, hl⟩
  · exact ⟨_, .inr ⟨_, rfl, h.cell (.tail _ (.head _)) 6 rfl⟩, h.cell (.head _) 1 rfl, hl⟩
set_option maxHeartbeats 1000000 in
set_option maxRecDepth 20000 in

theorem walk (a0 : Int) (w : World) (w0 : (Lit.int .i64 a0).wf = true) :
    Calls Try.prog 6 #[.int .i64 a0] w fun e w' => e = .returned (.bool true) ∧ Below w.heap.size w w' := by
  have AW := hidden Pa.alive
  have FA : Hid (∀ (W : World) (p : Option Addr), Nobody W p → Calls Try.prog 12 #[.pointer p] W fun e w' => e = .returned (.tuple #[.bool false, .int .i64 4]) ∧ W = w') := fun W p h => failN h
  have GO : Hid (∀ (W : World) (p : Option Addr), Nobody W p → Calls Try.prog 14 #[.pointer p] W fun e w' => e = .returned (.tuple #[.bool false, .int .i64 4]) ∧ W = w') := fun W p h => goodN h
  have AS : Hid (∀ (W : World) (p : Option Addr), Nobody W p → Calls Try.prog 18 #[.pointer p, .int .i64 a0] W fun e w' => e = .returned (.tuple #[.int .i64 0, .int .i64 4]) ∧ W = w') := fun W p h => askN h a0
  have BE : Hid (∀ (W : World) (p : Option Addr), Nobody W p → Calls Try.prog 16 #[.pointer p, .int .i64 a0] W fun e w' => e = .returned (.tuple #[.int .u32 0, .int .i64 4]) ∧ W = w') := fun W p h => beatN_ h a0
  have HE : Hid (∀ (W : World) (p : Option Addr), Nobody W p → Calls Try.prog 17 #[.pointer p, .int .u32 1, .int .i64 a0] W fun e w' => e = .returned (.tuple #[.int .i64 0, .bool false, .int .i64 4]) ∧ W = w') := fun W p h => heardN h 1 a0
  have MI : Hid (∀ (W : World) (p : Option Addr), Nobody W p → Calls Try.prog 19 #[.pointer p] W fun e w' => e = .returned (.tuple #[.bool false, .int .i64 4]) ∧ W = w') := fun W p h => missedN h
  have OP : Hid (∀ (W : World) (p : Option Addr), Nobody W p → Calls Try.prog 20 #[.pointer p] W fun e w' => e = .returned (.tuple #[.int .u32 0, .int .i64 0, .bool false]) ∧ W = w') := fun W p h => openN h
  have US : Hid (∀ (W : World) (p : Option Addr), Nobody W p → Calls Try.prog 21 #[.pointer p, .int .i64 a0] W fun e w' => e = .returned (.int .i64 4) ∧ W = w') := fun W p h => usedN h a0
  have ST : Hid (∀ (W : World) (p : Option Addr), Nobody W p → Calls Try.prog 13 #[.pointer p] W fun e w' => e = .returned (.int .i64 0) ∧ W = w') := fun W p h => stateN h
  have ER : Hid (∀ (W : World) (p : Option Addr), Nobody W p → Calls Try.prog 15 #[.pointer p] W fun e w' => e = .returned (.int .i64 0) ∧ W = w') := fun W p h => errorsN h
  clear w0
  go_enter Try.func6, Try.ntmps6
  go_wp2_with fail
  go_loopw [28] (fun i wr => ∃ q : Int, 0 ≤ q ∧ q ≤ 2 ∧ i = .int .i64 q ∧ Hid (Own w wr (LN w))) (fun i _ => 2 - (intOf i).toNat)
  case atStart => exact ⟨0, by omega, by omega, rfl, ownN w⟩
  case round =>
    obtain ⟨q, j1, j2, rfl, HO⟩ := hrel
    by_cases hq : q < 2
    · obtain ⟨p, hp, hpc, hlt⟩ := pickN HO.out j1 hq
      have HP := hidden hp
      clear hp
      go_wp2_with fail
      refine Calls.mono (FA.out _ _ HP.out) ?_
      rintro e w' ⟨rfl, rfl⟩
      go_wp2_with fail
      refine Calls.mono (GO.out _ _ HP.out) ?_
      rintro e w' ⟨rfl, rfl⟩
      go_wp2_with fail
      refine Calls.mono (AS.out _ _ HP.out) ?_
      rintro e w' ⟨rfl, rfl⟩
      go_wp2_with fail
      refine Calls.mono (BE.out _ _ HP.out) ?_
      rintro e w' ⟨rfl, rfl⟩
      go_wp2_with fail
      refine Calls.mono (HE.out _ _ HP.out) ?_
      rintro e w' ⟨rfl, rfl⟩
      go_wp2_with fail
      refine Calls.mono (MI.out _ _ HP.out) ?_
      rintro e w' ⟨rfl, rfl⟩
      go_wp2_with fail
      refine Calls.mono (OP.out _ _ HP.out) ?_
      rintro e w' ⟨rfl, rfl⟩
      go_wp2_with fail
      refine Calls.mono (US.out _ _ HP.out) ?_
      rintro e w' ⟨rfl, rfl⟩
      go_wp2_with fail
      refine Calls.mono (ST.out _ _ HP.out) ?_
      rintro e w' ⟨rfl, rfl⟩
      go_wp2_with fail
      refine Calls.mono (ER.out _ _ HP.out) ?_
      rintro e w' ⟨rfl, rfl⟩
      go_wp2
      go_roundw
      case rel => exact ⟨_, by omega, by omega, rfl, HO.out⟩
      case measure => simp [intOf]; omega
    · go_wp2_with fail
      refine Calls.mono (AW.out _) ?_
      rintro e w' ⟨rfl, hB⟩
      have HBB := hidden (HO.out.later hB).below
      clear hB
      go_wp2
      go_ret
      exact ⟨rfl, HBB.out⟩

theorem contract (H : Type) (enc : TypeId × Value → H) (W : World) (base : Nat) (args : Array Value) (ds gs : List (DataW H)) (before : List MemPlace)
    (hval : ∀ (j : Nat) t v, Try.f6.params[j]? = some t → args[j]? = some v → Value.okWide Try.prog W .any base t v)
    (hW : DataW.Whole enc Try.prog Try.f6.params.toList Rows.pathNobodySpec.vars false W args.toList ds gs before)
    (hsz0 : (DataW.weightsEach Try.prog (Try.f6.params.toList ++ Rows.pathNobodySpec.plain.varTypes Try.prog) (ds ++ gs)).all (· ≤ reachBytes) = true) :
    Calls Try.prog 6 args W fun e W' => ∃ v, e = .returned v ∧ Rows.pathNobodySpec.post enc Try.prog Try.f6 false true false false W args v W' := by
  have hW' := hW
  obtain ⟨p, q, hA0, hV, rfl, hfz, hnd⟩ := hW
  have hA : DataW.TrodAll enc Try.prog W 0 (fun _ => true) true Try.f6.params.toList args.toList ds p := hA0
  have hsz := hsz0
  rw [Try.params6] at hA hval hsz
  obtain ⟨v0, vs0, d0, ds0, p0, q0, hargs, rfl, rfl, h0, r0⟩ := trodAll_cons hA
  obtain ⟨rfl, rfl, rfl⟩ := trodAll_nil r0
  obtain rfl : args = #[v0] := by cases args; simp_all
  obtain ⟨rfl, rfl⟩ := trodVars_none hV
  obtain ⟨a0, rfl, rfl, rfl, w0⟩ := open_int Try.underlying3 (hval 0 3 v0 rfl rfl) h0
  clear hA0 hsz0 hsz
  refine (walk a0 W w0).mono fun e W' ⟨he, bel⟩ => ?_
  subst he
  exact ⟨_, rfl, _, _, _, [], _, [], hW', trodAll_mk1 (shut_bool Try.underlying4 _), (trodAll_cons_mk (shut_int Try.underlying3 w0) trodAll_mk0), rfl, bel.frame _, fun h => by cases h⟩

noncomputable def laidWorld (os : Os) : World :=
  World.holding Try.prog os ⟨#[], #[], []⟩
theorem laid_met (os : Os) : laidMet Try.prog Rows.pathNobodyRow.laid ((laidWorld os).forCall (fun _ _ => 0) ⟨#[], #[.int .i64 0], []⟩).memory :=
  laidMet_of_run' 8 (by kernel_rfl) (by kernel_rfl)
theorem reads (os : Os) {H : Type} (enc : TypeId × Value → H) : ∃ places, DataW.whole enc Try.prog ((laidWorld os).forCall (fun _ _ => 0) ⟨#[], #[.int .i64 0], []⟩).memory Try.f6.params.toList Rows.pathNobodySpec.vars false #[Value.int .i64 0].toList 8 = some ([.lit (.int .i64 0)], [], places) :=
  ⟨[], by kernel_rfl⟩

set_option maxRecDepth 100000 in
theorem lifted (os : Os) (started : os.Started) (H : Type) (enc : TypeId × Value → H) (F : Stop.Interp) :
    ReturnsInHanded {} Try.checked os 6 .any ((OpenSpec.ofChange Rows.pathNobodySpec).preRow enc Try.prog Try.f6 Rows.pathNobodyRow.domain false Rows.pathNobodyRow.laid) (((OpenSpec.ofChange Rows.pathNobodySpec).at F).post enc Try.prog Try.f6 false true false false) := by
  obtain ⟨places, hx⟩ := reads os enc
  refine returnsInHanded_of_row (C := Try.checked) (s := OpenSpec.ofChange Rows.pathNobodySpec) own started (by kernel_rfl) Try.func6
    (witness_row_at (enc := enc) (C := Try.checked) false (laidWorld os) #[.int .i64 0] rfl (by kernel_rfl) (by kernel_rfl) (by kernel_rfl)
      (OpenSpec.preRow_of_cond 8 hx (by kernel_rfl) (fun k hk => by cases hk) (by kernel_rfl) (laid_met os))) ?_
  intro W base args ds gs before hval hW _ hcond hsz hL _ _
  exact contract H enc W base args ds gs before hval hW hsz

theorem said : Rows.PathNobodySaid :=
  OpenClaim.holds_of_cond 6 Try.f6 rfl rfl rfl rfl rfl rfl rfl ⟨rfl, rfl, rfl, rfl, rfl⟩ rfl rfl rfl rfl rfl (by kernel_rfl) Try.func6 (by kernel_rfl)
    (of_decide_eq_true (by kernel_rfl)) (by unfold Func.isWrapper; first | (rw [if_pos (by decide +kernel)]; kernel_rfl) | (rw [if_neg (by decide +kernel)]; exact ⟨rfl, rfl⟩))
    (fun os started H enc _ F => by rw [OpenClaim.pre_eq_preRow]; exact lifted os started H enc F)

/-- THE STATEMENT -/
theorem proved : Rows.PathNobodySaid := said
#print axioms proved
end Go.Proofs.Ytfofcaedblhegaa.pathNobody
