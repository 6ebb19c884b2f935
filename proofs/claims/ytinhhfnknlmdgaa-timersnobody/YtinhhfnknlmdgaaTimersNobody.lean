/-
  What TimersNobody says of every call is true: a table that is nil, or that no call made, refuses all (rule 1). Conditions: none.
-/
import Derived.Test.YtinhhfnknlmdgaaRows
import Derived.WalkKit
import Derived.ProofKit
import Derived.OpenShut
import Derived.ShutString
import Derived.ChangeOld
import Derived.Below
import Derived.SizedLaws
import Derived.Deep.DeepHandedRow
import Derived.LaidLaws
import Derived.ChangeMaps5
import Derived.Test.YtinhhfnknlmdgaaTmN
import Derived.Test.YtinhhfnknlmdgaaAg
namespace Go.Proofs.Ytinhhfnknlmdgaa.timersNobody
open Go.ChangeShapes Go.WideShapes Go.ChangeAt Go.RowKit
open Go.ChangeMaps (open_string shut_string)
set_option linter.unusedVariables false

theorem own : ownKnob Try.prog.godebug = none := by kernel_rfl
theorem laidOut : laidOutB Try.prog = true := by kernel_rfl

open Ba (hidden Has)
/-- the two tables that nobody made, behind the law's own blocks -/
theorem two_nobody (w W : World) (c : Array Value) (hB : Below (((w.alloc (.cells c 32)).alloc (.cells #[.pointer none, .int .i64 0] 50)).alloc (.cells #[.pointer none, .pointer (some ⟨w.heap.size + 1, 0, none⟩)] 23)).heap.size (((w.alloc (.cells c 32)).alloc (.cells #[.pointer none, .int .i64 0] 50)).alloc (.cells #[.pointer none, .pointer (some ⟨w.heap.size + 1, 0, none⟩)] 23)) W) :
    Has W w.heap.size c 32 ∧ Tm.Nobody W (some ⟨w.heap.size + 1, 0, none⟩) ∧ Has W (w.heap.size + 2) #[.pointer none, .pointer (some ⟨w.heap.size + 1, 0, none⟩)] 23 := by
  have h0 : Has (((w.alloc (.cells c 32)).alloc (.cells #[.pointer none, .int .i64 0] 50)).alloc (.cells #[.pointer none, .pointer (some ⟨w.heap.size + 1, 0, none⟩)] 23)) w.heap.size c 32 := ((Has.new w c 32).later ((Below.refl _ _).alloc (Nat.le_refl _) _)).later ((Below.refl _ _).alloc (Nat.le_refl _) _)
  have h1 := (Has.new (w.alloc (.cells c 32)) #[.pointer none, .int .i64 0] 50).later ((Below.refl _ _).alloc (Nat.le_refl _) (.cells #[.pointer none, .pointer (some ⟨w.heap.size + 1, 0, none⟩)] 23))
  have h2 := Has.new ((w.alloc (.cells c 32)).alloc (.cells #[.pointer none, .int .i64 0] 50)) #[.pointer none, .pointer (some ⟨w.heap.size + 1, 0, none⟩)] 23
  simp only [World.size_alloc] at h1 h2
  have h1 := h1.later hB
  exact ⟨h0.later hB, .inr ⟨_, 0, rfl, h1.cell 0 rfl, h1.cell 1 rfl⟩, h2.later hB⟩
set_option maxHeartbeats 1000000 in

theorem walk (q0 : Int × Int × Int) (w : World) (w0 : (fun q => (Lit.int .i64 q.1).wf = true ∧ (Lit.int .i64 q.2.1).wf = true ∧ (Lit.int .i64 q.2.2).wf = true) q0) :
    Calls Try.prog 6 #[.agg ((fun q : Int × Int × Int => [.int .i64 q.1, .int .i64 q.2.1, .int .i64 q.2.2]) q0).toArray] w fun e w' => e = .returned (.bool true) ∧ Below w.heap.size w w' := by
  obtain ⟨kI, iI, tI⟩ := q0
  have AW := hidden Tm.awake
  have HT := hidden (two_nobody w)
  have ST : Hid (∀ (W : World) (p : Option Addr) (x : Int), Tm.Nobody W p → Calls Try.prog 12 #[.pointer p, .int .i64 x] W fun e w' => e = .returned (.tuple #[.bool false, .int .i64 4]) ∧ W = w') := fun W p x h => Tm.stopN h x
  have DU : Hid (∀ (W : World) (p : Option Addr) (x : Int), Tm.Nobody W p → Calls Try.prog 13 #[.pointer p, .int .i64 x] W fun e w' => e = .returned (.tuple #[.slice none 0 0, .int .i64 4]) ∧ W = w') := fun W p x h => Tm.dueN h x
  have GE : Hid (∀ (W : World) (p : Option Addr) (x : Int), Tm.Nobody W p → Calls Try.prog 18 #[.pointer p, .int .i64 x] W fun e w' => e = .returned (.tuple #[.int .i64 0, .bool false]) ∧ W = w') := fun W p x h => Tm.getN h x
  have NX : Hid (∀ (W : World) (p : Option Addr), Tm.Nobody W p → Calls Try.prog 19 #[.pointer p] W fun e w' => e = .returned (.tuple #[.agg #[.int .i64 0, .int .i64 0], .bool false]) ∧ Below W.heap.size W w') := fun W p h => Tm.nextN h
  have SE : Hid (∀ (W : World) (p : Option Addr) (x y : Int), Tm.Nobody W p → Calls Try.prog 10 #[.pointer p, .int .i64 x, .int .i64 y] W fun e w' => e = .returned (.int .i64 4) ∧ W = w') := fun W p x y h => Tm.setN h x y
  have LE : Hid (∀ (W : World) (p : Option Addr), Tm.Nobody W p → Calls Try.prog 14 #[.pointer p] W fun e w' => e = .returned (.int .i64 0) ∧ W = w') := fun W p h => Tm.lenN h
  have AL : Hid (∀ (W : World) (p : Option Addr), Tm.Nobody W p → Calls Try.prog 17 #[.pointer p] W fun e w' => e = .returned (.slice none 0 0) ∧ W = w') := fun W p h => Tm.allN h
  clear w0
  go_enter Try.func6, Try.ntmps6
  go_wp2_with fail
  go_loopw [19] (fun i wr => ∃ q : Int, 0 ≤ q ∧ q ≤ 2 ∧ i = .int .i64 q ∧ Hid (Below (((w.alloc (.cells #[.int .i64 kI, .int .i64 iI, .int .i64 tI] 32)).alloc (.cells #[.pointer none, .int .i64 0] 50)).alloc (.cells #[.pointer none, .pointer (some ⟨w.heap.size + 1, 0, none⟩)] 23)).heap.size (((w.alloc (.cells #[.int .i64 kI, .int .i64 iI, .int .i64 tI] 32)).alloc (.cells #[.pointer none, .int .i64 0] 50)).alloc (.cells #[.pointer none, .pointer (some ⟨w.heap.size + 1, 0, none⟩)] 23)) wr)) (fun i _ => 2 - (intOf i).toNat)
  case atStart => exact ⟨0, by omega, by omega, rfl, Below.refl _ _⟩
  case round =>
    obtain ⟨q, j1, j2, rfl, HB⟩ := hrel
    obtain ⟨g1, g2, g3⟩ := HT.out wr _ HB.out
    by_cases hq : q < 2
    · obtain ⟨p, hp, hpc⟩ : ∃ p, Tm.Nobody wr p ∧ wr.cell? ⟨w.heap.size + 2, q.toNat, none⟩ = some (.pointer p) := by
        have : q = 0 ∨ q = 1 := by omega
        rcases this with rfl | rfl
        · exact ⟨none, .inl rfl, g3.cell 0 rfl⟩
        · exact ⟨_, g2, g3.cell 1 rfl⟩
      have c1 := g1.cell 1 rfl
      have c2 := g1.cell 2 rfl
      have G1 := hidden g1
      have HP := hidden hp
      clear g1 g2 g3 hp
      go_wp2_with fail
      refine Calls.mono (ST.out _ _ _ HP.out) ?_
      rintro e w' ⟨rfl, rfl⟩
      go_wp2_with fail
      refine Calls.mono (DU.out _ _ _ HP.out) ?_
      rintro e w' ⟨rfl, rfl⟩
      go_wp2_with fail
      refine Calls.mono (GE.out _ _ _ HP.out) ?_
      rintro e w' ⟨rfl, rfl⟩
      go_wp2_with fail
      refine Calls.mono (NX.out _ _ HP.out) ?_
      rintro e w2 ⟨rfl, hB2⟩
      have hB3 : Below wr.heap.size wr (w2.alloc (.cells #[.int .i64 0, .int .i64 0] 43)) := hB2.alloc hB2.size _
      have g1 := G1.out.later hB3
      have d1 := g1.cell 1 rfl
      have d2 := g1.cell 2 rfl
      have HP3 := hidden (HP.out.later hB3)
      have HB3 := hidden (HB.out.trans (hB3.mono HB.out.size))
      obtain ⟨w3, hw3⟩ : ∃ w3, w3 = w2.alloc (.cells #[.int .i64 0, .int .i64 0] 43) := ⟨_, rfl⟩
      rw [← hw3] at d1 d2 HP3 HB3
      have HW3 := hidden hw3
      clear hB2 hB3 g1 G1 c1 c2 hpc HP hw3
      go_upto_region 9 with fail
      rw [← HW3.out]
      go_wp2_with fail
      refine Calls.mono (SE.out _ _ _ _ HP3.out) ?_
      rintro e w' ⟨rfl, rfl⟩
      go_wp2_with fail
      refine Calls.mono (LE.out _ _ HP3.out) ?_
      rintro e w' ⟨rfl, rfl⟩
      go_wp2_with fail
      refine Calls.mono (AL.out _ _ HP3.out) ?_
      rintro e w' ⟨rfl, rfl⟩
      go_wp2
      go_roundw
      case rel => exact ⟨_, by omega, by omega, rfl, HB3.out⟩
      case measure => simp [intOf]; omega
    · have HBf : Hid (Below w.heap.size w wr) := ((((Below.refl _ w).alloc (Nat.le_refl _) _).alloc (by simp) _).alloc (by simp; omega) _).trans (HB.out.mono (by simp; omega))
      clear g1 g2 g3
      go_wp2_with fail
      refine Calls.mono (AW.out _) ?_
      rintro e w' ⟨rfl, hB⟩
      have HBB := hidden hB
      clear hB
      go_wp2
      go_ret
      exact ⟨rfl, HBf.out.trans (HBB.out.mono HBf.out.size)⟩

theorem contract (H : Type) (enc : TypeId × Value → H) (W : World) (base : Nat) (args : Array Value) (ds gs : List (DataW H)) (before : List MemPlace)
    (hval : ∀ (j : Nat) t v, Try.f6.params[j]? = some t → args[j]? = some v → Value.okWide Try.prog W .any base t v)
    (hW : DataW.Whole enc Try.prog Try.f6.params.toList Rows.timersNobodySpec.vars false W args.toList ds gs before)
    (hsz0 : (DataW.weightsEach Try.prog (Try.f6.params.toList ++ Rows.timersNobodySpec.plain.varTypes Try.prog) (ds ++ gs)).all (· ≤ reachBytes) = true) :
    Calls Try.prog 6 args W fun e W' => ∃ v, e = .returned v ∧ Rows.timersNobodySpec.post enc Try.prog Try.f6 false true false false W args v W' := by
  have hW' := hW
  obtain ⟨p, q, hA0, hV, rfl, hfz, hnd⟩ := hW
  have hA : DataW.TrodAll enc Try.prog W 0 (fun _ => true) true Try.f6.params.toList args.toList ds p := hA0
  have hsz := hsz0
  rw [Try.params6] at hA hval hsz
  obtain ⟨v0, vs0, d0, ds0, p0, q0, hargs, rfl, rfl, h0, r0⟩ := trodAll_cons hA
  obtain ⟨rfl, rfl, rfl⟩ := trodAll_nil r0
  obtain rfl : args = #[v0] := by cases args; simp_all
  obtain ⟨rfl, rfl⟩ := trodVars_none hV
  have k0 := h0
  have lt0 : ∀ x ∈ p0, x.block < W.heap.size := by obtain ⟨m, hm⟩ := k0; exact DataW.trod_lt m _ _ _ hm
  have sz0 : (d0.weights Try.prog 32).all (· ≤ reachBytes) = true := List.all_eq_true.2 fun m hm => List.all_eq_true.1 hsz m (DataW.weights_mem_each (j := 0) rfl rfl m hm)
  obtain ⟨q0, rfl, w0⟩ : ∃ q, v0 = .agg ((fun q : Int × Int × Int => [.int .i64 q.1, .int .i64 q.2.1, .int .i64 q.2.2]) q).toArray ∧ (fun q => (Lit.int .i64 q.1).wf = true ∧ (Lit.int .i64 q.2.1).wf = true ∧ (Lit.int .i64 q.2.2).wf = true) q := by
    obtain ⟨fuel, hf⟩ := h0
    exact Ag.one_arg (Ag.kind3 Try.underlying32 (by kernel_rfl) rfl rfl rfl Try.underlying3 Try.underlying3 Try.underlying3 (by kernel_rfl) (by kernel_rfl) (by kernel_rfl)) Try.underlying32 (hval 0 32 v0 rfl rfl) hf sz0
  clear hA0 hsz0 hsz
  refine (walk q0 W w0).mono fun e W' ⟨he, bel⟩ => ?_
  subst he
  exact ⟨_, rfl, _, _, _, [], _, [], hW', trodAll_mk1 (shut_bool Try.underlying4 _), (trodAll_cons_mk (Below.trod laidOut (by kernel_rfl) (of_decide_eq_true (by kernel_rfl)) k0 bel lt0) trodAll_mk0), rfl, bel.frame _, fun h => by cases h⟩

noncomputable def laidWorld (os : Os) : World :=
  World.holding Try.prog os ⟨#[], #[], []⟩
theorem laid_met (os : Os) : laidMet Try.prog Rows.timersNobodyRow.laid ((laidWorld os).forCall (fun _ _ => 0) ⟨#[], #[.agg #[.int .i64 0, .int .i64 0, .int .i64 0]], []⟩).memory :=
  laidMet_of_run' 8 (by kernel_rfl) (by kernel_rfl)
theorem reads (os : Os) {H : Type} (enc : TypeId × Value → H) : ∃ places, DataW.whole enc Try.prog ((laidWorld os).forCall (fun _ _ => 0) ⟨#[], #[.agg #[.int .i64 0, .int .i64 0, .int .i64 0]], []⟩).memory Try.f6.params.toList Rows.timersNobodySpec.vars false #[Value.agg #[.int .i64 0, .int .i64 0, .int .i64 0]].toList 8 = some ([.agg [.lit (.int .i64 0), .lit (.int .i64 0), .lit (.int .i64 0)]], [], places) :=
  ⟨[], by kernel_rfl⟩

set_option maxRecDepth 100000 in
theorem lifted (os : Os) (started : os.Started) (H : Type) (enc : TypeId × Value → H) (F : Stop.Interp) :
    ReturnsInHanded {} Try.checked os 6 .any ((OpenSpec.ofChange Rows.timersNobodySpec).preRow enc Try.prog Try.f6 Rows.timersNobodyRow.domain false Rows.timersNobodyRow.laid) (((OpenSpec.ofChange Rows.timersNobodySpec).at F).post enc Try.prog Try.f6 false true false false) := by
  obtain ⟨places, hx⟩ := reads os enc
  refine returnsInHanded_of_row (C := Try.checked) (s := OpenSpec.ofChange Rows.timersNobodySpec) own started (by kernel_rfl) Try.func6
    (witness_row_at (enc := enc) (C := Try.checked) false (laidWorld os) #[.agg #[.int .i64 0, .int .i64 0, .int .i64 0]] rfl (by kernel_rfl) (by kernel_rfl) (by kernel_rfl)
      (OpenSpec.preRow_of_cond 8 hx (by kernel_rfl) (fun k hk => by cases hk) (by kernel_rfl) (laid_met os))) ?_
  intro W base args ds gs before hval hW _ hcond hsz hL _ _
  exact contract H enc W base args ds gs before hval hW hsz

theorem said : Rows.TimersNobodySaid :=
  OpenClaim.holds_of_cond 6 Try.f6 rfl rfl rfl rfl rfl rfl rfl ⟨rfl, rfl, rfl, rfl, rfl⟩ rfl rfl rfl rfl rfl (by kernel_rfl) Try.func6 (by kernel_rfl)
    (of_decide_eq_true (by kernel_rfl)) (by unfold Func.isWrapper; first | (rw [if_pos (by decide +kernel)]; kernel_rfl) | (rw [if_neg (by decide +kernel)]; exact ⟨rfl, rfl⟩))
    (fun os started H enc _ F => by rw [OpenClaim.pre_eq_preRow]; exact lifted os started H enc F)

/-- THE STATEMENT -/
theorem proved : Rows.TimersNobodySaid := said
#print axioms proved
end Go.Proofs.Ytinhhfnknlmdgaa.timersNobody
