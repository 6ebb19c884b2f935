/-
  What ChunkAlls says of every row of bytes (of bulk at most 1048576) is true: package chunk reads all chunks of bytes as the document says, or tells the first place at which there is none. Conditions: as the statement's second form has it (the first is false by size alone).
-/
import Derived.Test.YtifdkpifambhaaaRows
import Derived.WalkKit
import Derived.ProofKit
import Derived.OpenShut
import Derived.ShutString
import Derived.ChangeOld
import Derived.Below
import Derived.SizedLaws
import Derived.Deep.DeepHandedRow
import Derived.LaidLaws
import Derived.ChangeMaps5
import Derived.Test.YtifdkpifambhaaaChArgs
import Derived.Test.YtifdkpifambhaaaChRh
namespace Go.Proofs.Ytifdkpifambhaaa.chunkAlls
open Go.ChangeShapes Go.WideShapes Go.ChangeAt Go.RowKit
open Go.ChangeMaps (open_string shut_string)
set_option linter.unusedVariables false

theorem own : ownKnob Try.prog.godebug = none := by kernel_rfl
theorem laidOut : laidOutB Try.prog = true := by kernel_rfl

open Par (hidden)
set_option maxRecDepth 20000 in
set_option maxHeartbeats 1000000 in

theorem walk (a0 : Option Addr) (len0 cap0 : Nat) (z0 : List Int) (w : World) (w0 : Par.Row 0 w a0 len0 z0) (s0 : len0 ≤ cap0 ∧ cap0 ≤ 140737488351232 ∧ (a0 = none → len0 = 0 ∧ cap0 = 0)) (m0 : len0 ≤ 1048576) :
    Calls Try.prog 5 #[.slice a0 len0 cap0] w fun e w' => e = .returned (.bool true) ∧ Below w.heap.size w w' := by
  have DE := hidden (Chu.all 0 w a0 len0 cap0 z0 w0 s0.1 m0)
  have W0 := hidden w0
  have S0 := hidden s0
  clear w0 s0
  go_enter Try.func5, Try.ntmps5
  go_wp2_with fail
  refine Calls.mono DE.out ?_
  rintro e w1 ⟨pa, n, pcap, l, p, er, rfl, hck, hO, b1⟩
  have HB := hidden b1
  have HCK := hidden hck
  have HO := hidden hO
  have RE := hidden (Chu.rAll 0 w1 a0 len0 cap0 z0 (W0.out.later b1) S0.out.1 m0)
  clear hck hO b1 DE
  go_wp2_with fail
  refine Calls.mono RE.out ?_
  rintro e w2 ⟨qa, n2, qcap, l2, p2, er2, rfl, hck2, hO2, b2⟩
  obtain ⟨hl, rfl, rfl⟩ := HO.out.one hO2
  have HB3 := hidden (HB.out.trans (b2.mono HB.out.size))
  have SA := hidden (Chu.rAllSame _ _ w2 pa qa n n2 pcap qcap l l2 (HCK.out.later b2) hck2)
  have HL := hidden hl
  clear hO2 hck2 b2 RE hl
  go_wp2_with fail
  refine Calls.mono SA.out ?_
  rintro e w5 ⟨t, rfl, ht, b5⟩
  obtain rfl : t = true := ht.2 HL.out
  have HB5 := hidden (HB3.out.trans (b5.mono HB3.out.size))
  clear b5 ht SA
  go_wp2_with fail
  refine Calls.mono (Chu.awake w5) ?_
  rintro e w6 ⟨rfl, b6⟩
  have HB6 := hidden (HB5.out.trans (b6.mono HB5.out.size))
  clear b6
  go_wp2
  go_ret
  exact ⟨rfl, HB6.out⟩

set_option maxRecDepth 100000 in
theorem contract (H : Type) (enc : TypeId × Value → H) (W : World) (base : Nat) (args : Array Value) (ds gs : List (DataW H)) (before : List MemPlace)
    (hval : ∀ (j : Nat) t v, Try.f5.params[j]? = some t → args[j]? = some v → Value.okWide Try.prog W .any base t v)
    (hW : DataW.Whole enc Try.prog Try.f5.params.toList Rows.chunkAllsSpec.vars false W args.toList ds gs before)
    (hsz0 : (DataW.weightsEach Try.prog (Try.f5.params.toList ++ Rows.chunkAllsSpec.plain.varTypes Try.prog) (ds ++ gs)).all (· ≤ reachBytes) = true) (hk : Rows.uptoSmall H (ds ++ gs) = true) :
    Calls Try.prog 5 args W fun e W' => ∃ v, e = .returned v ∧ Rows.chunkAllsSpec.post enc Try.prog Try.f5 false true false false W args v W' := by
  have hW' := hW
  obtain ⟨p, q, hA0, hV, rfl, hfz, hnd⟩ := hW
  have hA : DataW.TrodAll enc Try.prog W 0 (fun _ => true) true Try.f5.params.toList args.toList ds p := hA0
  have hsz := hsz0
  rw [Try.params5] at hA hval hsz
  obtain ⟨v0, vs0, d0, ds0, p0, q0, hargs, rfl, rfl, h0, r0⟩ := trodAll_cons hA
  obtain ⟨rfl, rfl, rfl⟩ := trodAll_nil r0
  obtain rfl : args = #[v0] := by cases args; simp_all
  obtain ⟨rfl, rfl⟩ := trodVars_none hV
  obtain ⟨a0, len0, cap0, rfl⟩ := okWide_slice Try.underlying23 (hval 0 23 v0 rfl rfl)
  have k0 := h0
  have lt0 : ∀ x ∈ p0, x.block < W.heap.size := by obtain ⟨m, hm⟩ := k0; exact DataW.trod_lt m _ _ _ hm
  have sz0 : (d0.weights Try.prog 23).all (· ≤ reachBytes) = true := List.all_eq_true.2 fun m hm => List.all_eq_true.1 hsz m (DataW.weights_mem_each (j := 0) rfl rfl m hm)
  obtain ⟨z0, w0, s0⟩ : ∃ zs, Par.Row 0 W a0 len0 zs ∧ len0 ≤ cap0 ∧ cap0 ≤ 140737488351232 ∧ (a0 = none → len0 = 0 ∧ cap0 = 0) := by
    obtain ⟨fuel, hf⟩ := h0
    exact Par.row_arg hf sz0
  have m0 : len0 ≤ 1048576 := by
    have hbulk0 := of_decide_eq_true hk
    obtain ⟨fuel, hf⟩ := k0
    refine Chu.row_small hf ?_
    simp only [List.append_nil, Rows.uptoBulkAll, Nat.add_zero] at hbulk0
    omega
  clear hA0 hsz0 hsz
  refine (walk a0 len0 cap0 z0 W w0 s0 m0).mono fun e W' ⟨he, bel⟩ => ?_
  subst he
  exact ⟨_, rfl, _, _, _, [], _, [], hW', trodAll_mk1 (shut_bool Try.underlying4 _), (trodAll_cons_mk (Below.trod laidOut (by kernel_rfl) (of_decide_eq_true (by kernel_rfl)) k0 bel lt0) trodAll_mk0), rfl, bel.frame _, fun h => by cases h⟩

noncomputable def laidWorld (os : Os) : World :=
  World.holding Try.prog os ⟨#[], #[], []⟩
set_option maxRecDepth 100000 in
theorem laid_met (os : Os) : laidMet Try.prog Rows.chunkAllsUptoRow.laid ((laidWorld os).forCall (fun _ _ => 0) ⟨#[], #[.slice none 0 0], []⟩).memory :=
  laidMet_of_run' 8 (by kernel_rfl) (by kernel_rfl)
set_option maxRecDepth 100000 in
theorem reads (os : Os) {H : Type} (enc : TypeId × Value → H) : ∃ places, DataW.whole enc Try.prog ((laidWorld os).forCall (fun _ _ => 0) ⟨#[], #[.slice none 0 0], []⟩).memory Try.f5.params.toList Rows.chunkAllsSpec.vars false #[Value.slice none 0 0].toList 8 = some ([.nil], [], places) :=
  ⟨[], by kernel_rfl⟩

set_option maxRecDepth 100000 in
theorem lifted (os : Os) (started : os.Started) (H : Type) (enc : TypeId × Value → H) (F : Stop.Interp) :
    ReturnsInHanded {} Try.checked os 5 .any ((Rows.OpenSpec.upto Rows.chunkAllsSpec).preRow enc Try.prog Try.f5 Rows.chunkAllsUptoRow.domain false Rows.chunkAllsUptoRow.laid) (((Rows.OpenSpec.upto Rows.chunkAllsSpec).at F).post enc Try.prog Try.f5 false true false false) := by
  obtain ⟨places, hx⟩ := reads os enc
  refine returnsInHanded_of_row (C := Try.checked) (s := Rows.OpenSpec.upto Rows.chunkAllsSpec) own started (by kernel_rfl) Try.func5
    (witness_row_at (enc := enc) (C := Try.checked) false (laidWorld os) #[.slice none 0 0] rfl (by kernel_rfl) (by kernel_rfl) (by kernel_rfl)
      (OpenSpec.preRow_of_cond 8 hx (by kernel_rfl) (fun k hk => by cases hk; kernel_rfl) (by kernel_rfl) (laid_met os))) ?_
  intro W base args ds gs before hval hW _ hcond hsz hL _ _
  exact contract H enc W base args ds gs before hval hW hsz (hcond _ rfl)

theorem said : Rows.ChunkAllsUptoSaid :=
  OpenClaim.holds_of_cond 5 Try.f5 rfl rfl rfl rfl rfl rfl rfl ⟨rfl, rfl, rfl, rfl, rfl⟩ rfl rfl rfl rfl rfl (by kernel_rfl) Try.func5 (by kernel_rfl)
    (of_decide_eq_true (by kernel_rfl)) (by unfold Func.isWrapper; first | (rw [if_pos (by decide +kernel)]; kernel_rfl) | (rw [if_neg (by decide +kernel)]; exact ⟨rfl, rfl⟩))
    (fun os started H enc _ F => by rw [OpenClaim.pre_eq_preRow]; exact lifted os started H enc F)

/-- THE STATEMENT -/
theorem proved : Rows.ChunkAllsUptoSaid := said
#print axioms proved
end Go.Proofs.Ytifdkpifambhaaa.chunkAlls
