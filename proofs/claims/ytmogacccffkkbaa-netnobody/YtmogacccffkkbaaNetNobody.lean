/-
  What NetNobody says is true for every end, path and bytes: a network that nobody made refuses all (rule 3). Conditions: none.
-/
import Derived.Test.YtmogacccffkkbaaRows
import Derived.WalkKit
import Derived.ProofKit
import Derived.OpenShut
import Derived.ShutString
import Derived.ChangeOld
import Derived.Below
import Derived.SizedLaws
import Derived.Deep.DeepHandedRow
import Derived.LaidLaws
import Derived.ChangeMaps5
import Derived.Test.YtmogacccffkkbaaNtAl
import Derived.Test.YtmogacccffkkbaaNtNb
import Derived.Test.YtmogacccffkkbaaAg
namespace Go.Proofs.Ytmogacccffkkbaa.netNobody
open Go.ChangeShapes Go.WideShapes Go.ChangeAt Go.RowKit
open Go.ChangeMaps (open_string shut_string)
set_option linter.unusedVariables false

theorem own : ownKnob Try.prog.godebug = none := by kernel_rfl
theorem laidOut : laidOutB Try.prog = true := by kernel_rfl

open Ba (hidden Has Only In)
set_option maxHeartbeats 4000000 in
set_option maxRecDepth 20000 in

theorem walk (a0 : Int) (a1 : Int) (a2 : Option Addr) (len2 cap2 : Nat) (z2 : List (Int)) (w : World) (w0 : (Lit.int .i64 a0).wf = true) (w1 : (Lit.int .i64 a1).wf = true) (w2 : Ag.Rows (fun n : Int => [.int .u8 n]) (fun n => (Lit.int .u8 n).wf = true) 1 w a2 len2 z2) (s2 : len2 ≤ cap2 ∧ cap2 * Try.prog.bytesOf 5 ≤ 140737488351232 ∧ (a2 = none → len2 = 0 ∧ cap2 = 0)) :
    Calls Try.prog 6 #[.int .i64 a0, .int .i64 a1, .slice a2 len2 cap2] w fun e w' => e = .returned (.bool true) ∧ Below w.heap.size w w' := by
  have AW := hidden Nt.awake
  obtain ⟨W1, hW1⟩ : ∃ W1, W1 = (w.alloc (.cells #[.slice none 0 0, .int .i64 0] 57)).alloc (.cells #[.pointer none, .pointer (some ⟨w.heap.size, 0, none⟩)] 23) := ⟨_, rfl⟩
  have hz : Has (w.alloc (.cells #[.slice none 0 0, .int .i64 0] 57)) w.heap.size #[.slice none 0 0, .int .i64 0] 57 := Has.new w _ _
  have hB1 : Below w.heap.size w W1 := by rw [hW1]; exact ((Below.refl _ w).alloc (Nat.le_refl _) _).alloc (by simp) _
  have hz1 : Has W1 w.heap.size #[.slice none 0 0, .int .i64 0] 57 := by rw [hW1]; exact hz.later ((Below.refl _ _).alloc (Nat.le_refl _) _)
  have hs1 : Has W1 (w.heap.size + 1) #[.pointer none, .pointer (some ⟨w.heap.size, 0, none⟩)] 23 := by
    have := Has.new (w.alloc (.cells #[.slice none 0 0, .int .i64 0] 57)) #[.pointer none, .pointer (some ⟨w.heap.size, 0, none⟩)] 23
    rw [hW1]
    simpa using this
  have VAL : Hid (∀ (wr : World) (q : Int), Below W1.heap.size W1 wr → 0 ≤ q → q < 2 → ∃ a, wr.cell? ⟨w.heap.size + 1, q.toNat, none⟩ = some (.pointer a) ∧ Nt.Nb wr (.pointer a)) := fun wr q hB h0 h2 => by
    have hc : ∀ k v, #[Value.pointer none, .pointer (some ⟨w.heap.size, 0, none⟩)][k]? = some v → wr.cell? ⟨w.heap.size + 1, k, none⟩ = some v := fun k v hk => (hB.cell (p := ⟨w.heap.size + 1, k, none⟩) hs1.lt).trans (hs1.cell k hk)
    rcases (show q = 0 ∨ q = 1 by omega) with rfl | rfl
    · exact ⟨none, hc 0 _ rfl, .inl rfl⟩
    · exact ⟨some ⟨w.heap.size, 0, none⟩, hc 1 _ rfl, .inr ⟨w.heap.size, rfl, (hz1.later hB).lt, (hz1.later hB).cell 0 rfl⟩⟩
  have HB1 := hidden hB1
  have HW1 := hidden hW1
  clear w0 w1 w2 s2 hz hz1 hs1 hW1 hB1
  go_enter Try.func6, Try.ntmps6
  go_wp2_with fail
  rw [← HW1.out]
  go_loopw [28] (fun iv wr => ∃ (q : Int), iv = .int .i64 q ∧ Hid (Below W1.heap.size W1 wr) ∧ 0 ≤ q ∧ q ≤ 2) (fun iv _ => 2 - (intOf iv).toNat)
  case atStart => exact ⟨0, rfl, Below.refl _ _, by omega, by omega⟩
  case round =>
    obtain ⟨q, rfl, HR, j1, j2⟩ := hrel
    by_cases hq : q < 2
    · obtain ⟨a, ca, hNb⟩ := VAL.out wr q HR.out j1 hq
      have HN := hidden hNb
      clear hNb
      go_wp2_with fail
      refine Calls.mono (Nt.sendN HN.out a0 a1 0 a2 len2 cap2) ?_
      rintro e x1 ⟨rfl, hB1⟩
      have HN1 := hidden (HN.out.later hB1)
      have HR1 := hidden (HR.out.trans (hB1.mono HR.out.size))
      clear hB1 HN HR ca
      go_wp2_with fail
      refine Calls.mono (Nt.forgeN HN1.out a0 a1 0 a2 len2 cap2) ?_
      rintro e x2 ⟨rfl, hB1⟩
      have HN2 := hidden (HN1.out.later hB1)
      have HR2 := hidden (HR1.out.trans (hB1.mono HR1.out.size))
      clear hB1 HN1 HR1
      go_wp2_with fail
      refine Calls.mono (Nt.flyingN HN2.out a0 a1) ?_
      rintro e x ⟨rfl, rfl⟩
      go_wp2_with fail
      refine Calls.mono (Nt.deliverN HN2.out a0 a1 0) ?_
      rintro e x3 ⟨rfl, hB1⟩
      have HN3 := hidden (HN2.out.later hB1)
      have HR3 := hidden (HR2.out.trans (hB1.mono HR2.out.size))
      clear hB1 HN2 HR2
      go_wp2_with fail
      refine Calls.mono (Nt.twiceN HN3.out a0 a1 0) ?_
      rintro e x4 ⟨rfl, hB1⟩
      have HN4 := hidden (HN3.out.later hB1)
      have HR4 := hidden (HR3.out.trans (hB1.mono HR3.out.size))
      clear hB1 HN3 HR3
      go_wp2_with fail
      refine Calls.mono (Nt.trafficN HN4.out a0 a1) ?_
      rintro e x5 ⟨rfl, hB1⟩
      have hB1' := hB1.alloc hB1.size (.cells #[.int .i64 0, .int .i64 0, .int .i64 0, .int .i64 0] 45)
      have HN5 := hidden (HN4.out.later hB1')
      have HR5 := hidden (HR4.out.trans (hB1'.mono HR4.out.size))
      unfold Nt.tv Nt.zT
      clear hB1 hB1' HN4 HR4
      go_wp2_with fail
      refine Calls.mono (Nt.dropN HN5.out a0 a1 0) ?_
      rintro e x6 ⟨rfl, hB1⟩
      have HN6 := hidden (HN5.out.later hB1)
      have HR6 := hidden (HR5.out.trans (hB1.mono HR5.out.size))
      clear hB1 HN5 HR5
      go_wp2_with fail
      refine Calls.mono (Nt.spoilN HN6.out a0 a1 0 0 1) ?_
      rintro e x7 ⟨rfl, hB1⟩
      have HN7 := hidden (HN6.out.later hB1)
      have HR7 := hidden (HR6.out.trans (hB1.mono HR6.out.size))
      clear hB1 HN6 HR6
      go_wp2_with fail
      refine Calls.mono (Nt.downN HN7.out a1) ?_
      rintro e x ⟨rfl, rfl⟩
      go_wp2_with fail
      refine Calls.mono (Nt.upN HN7.out a1) ?_
      rintro e x ⟨rfl, rfl⟩
      go_wp2_with fail
      refine Calls.mono (Nt.worksN HN7.out a1) ?_
      rintro e x ⟨rfl, rfl⟩
      go_wp2_with fail
      refine Calls.mono (Nt.pathsN HN7.out) ?_
      rintro e x ⟨rfl, rfl⟩
      go_wp2
      go_roundw
      case rel => exact ⟨_, rfl, HR7.out, by omega, by omega⟩
      case measure => simp [intOf]; omega
    · go_wp2_with fail
      refine Calls.mono (AW.out _) ?_
      rintro e x ⟨rfl, hB⟩
      have HF := hidden (HB1.out.trans ((HR.out.trans (hB.mono HR.out.size)).mono HB1.out.size))
      clear hB HR
      go_wp2
      go_ret
      exact ⟨rfl, HF.out⟩

set_option maxRecDepth 100000 in
theorem contract (H : Type) (enc : TypeId × Value → H) (W : World) (base : Nat) (args : Array Value) (ds gs : List (DataW H)) (before : List MemPlace)
    (hval : ∀ (j : Nat) t v, Try.f6.params[j]? = some t → args[j]? = some v → Value.okWide Try.prog W .any base t v)
    (hW : DataW.Whole enc Try.prog Try.f6.params.toList Rows.netNobodySpec.vars false W args.toList ds gs before)
    (hsz0 : (DataW.weightsEach Try.prog (Try.f6.params.toList ++ Rows.netNobodySpec.plain.varTypes Try.prog) (ds ++ gs)).all (· ≤ reachBytes) = true) :
    Calls Try.prog 6 args W fun e W' => ∃ v, e = .returned v ∧ Rows.netNobodySpec.post enc Try.prog Try.f6 false true false false W args v W' := by
  have hW' := hW
  obtain ⟨p, q, hA0, hV, rfl, hfz, hnd⟩ := hW
  have hA : DataW.TrodAll enc Try.prog W 0 (fun _ => true) true Try.f6.params.toList args.toList ds p := hA0
  have hsz := hsz0
  rw [Try.params6] at hA hval hsz
  obtain ⟨v0, vs0, d0, ds0, p0, q0, hargs, rfl, rfl, h0, r0⟩ := trodAll_cons hA
  obtain ⟨v1, vs1, d1, ds1, p1, q1, rfl, rfl, rfl, h1, r1⟩ := trodAll_cons r0
  obtain ⟨v2, vs2, d2, ds2, p2, q2, rfl, rfl, rfl, h2, r2⟩ := trodAll_cons r1
  obtain ⟨rfl, rfl, rfl⟩ := trodAll_nil r2
  obtain rfl : args = #[v0, v1, v2] := by cases args; simp_all
  obtain ⟨rfl, rfl⟩ := trodVars_none hV
  obtain ⟨a0, rfl, rfl, rfl, w0⟩ := open_int Try.underlying3 (hval 0 3 v0 rfl rfl) h0
  obtain ⟨a1, rfl, rfl, rfl, w1⟩ := open_int Try.underlying3 (hval 1 3 v1 rfl rfl) h1
  obtain ⟨a2, len2, cap2, rfl⟩ := okWide_slice Try.underlying32 (hval 2 32 v2 rfl rfl)
  have k2 := h2
  have lt2 : ∀ x ∈ p2, x.block < W.heap.size := by obtain ⟨m, hm⟩ := k2; exact DataW.trod_lt m _ _ _ hm
  have sz2 : (d2.weights Try.prog 32).all (· ≤ reachBytes) = true := List.all_eq_true.2 fun m hm => List.all_eq_true.1 hsz m (DataW.weights_mem_each (j := 2) rfl rfl m hm)
  obtain ⟨z2, w2, s2⟩ : ∃ zs, Ag.Rows (fun n : Int => [.int .u8 n]) (fun n => (Lit.int .u8 n).wf = true) 1 W a2 len2 zs ∧ len2 ≤ cap2 ∧ cap2 * Try.prog.bytesOf 5 ≤ 140737488351232 ∧ (a2 = none → len2 = 0 ∧ cap2 = 0) := by
    obtain ⟨fuel, hf⟩ := h2
    exact Ag.rows_arg (Ag.kind_int Try.underlying5 (by kernel_rfl)) Try.underlying32 (Nat.le_of_ble_eq_true (by kernel_rfl)) hf sz2
  clear hA0 hsz0 hsz
  refine (walk a0 a1 a2 len2 cap2 z2 W w0 w1 w2 s2).mono fun e W' ⟨he, bel⟩ => ?_
  subst he
  exact ⟨_, rfl, _, _, _, [], _, [], hW', trodAll_mk1 (shut_bool Try.underlying4 _), (trodAll_cons_mk (shut_int Try.underlying3 w0) (trodAll_cons_mk (shut_int Try.underlying3 w1) (trodAll_cons_mk (Below.trod laidOut (by kernel_rfl) (of_decide_eq_true (by kernel_rfl)) k2 bel lt2) trodAll_mk0))), rfl, bel.frame _, fun h => by cases h⟩

noncomputable def laidWorld (os : Os) : World :=
  World.holding Try.prog os ⟨#[], #[], []⟩
theorem laid_met (os : Os) : laidMet Try.prog Rows.netNobodyRow.laid ((laidWorld os).forCall (fun _ _ => 0) ⟨#[], #[.int .i64 0, .int .i64 0, .slice none 0 0], []⟩).memory :=
  laidMet_of_run' 8 (by kernel_rfl) (by kernel_rfl)
theorem reads (os : Os) {H : Type} (enc : TypeId × Value → H) : ∃ places, DataW.whole enc Try.prog ((laidWorld os).forCall (fun _ _ => 0) ⟨#[], #[.int .i64 0, .int .i64 0, .slice none 0 0], []⟩).memory Try.f6.params.toList Rows.netNobodySpec.vars false #[Value.int .i64 0, Value.int .i64 0, Value.slice none 0 0].toList 8 = some ([.lit (.int .i64 0), .lit (.int .i64 0), .nil], [], places) :=
  ⟨[], by kernel_rfl⟩

set_option maxRecDepth 100000 in
theorem lifted (os : Os) (started : os.Started) (H : Type) (enc : TypeId × Value → H) (F : Stop.Interp) :
    ReturnsInHanded {} Try.checked os 6 .any ((OpenSpec.ofChange Rows.netNobodySpec).preRow enc Try.prog Try.f6 Rows.netNobodyRow.domain false Rows.netNobodyRow.laid) (((OpenSpec.ofChange Rows.netNobodySpec).at F).post enc Try.prog Try.f6 false true false false) := by
  obtain ⟨places, hx⟩ := reads os enc
  refine returnsInHanded_of_row (C := Try.checked) (s := OpenSpec.ofChange Rows.netNobodySpec) own started (by kernel_rfl) Try.func6
    (witness_row_at (enc := enc) (C := Try.checked) false (laidWorld os) #[.int .i64 0, .int .i64 0, .slice none 0 0] rfl (by kernel_rfl) (by kernel_rfl) (by kernel_rfl)
      (OpenSpec.preRow_of_cond 8 hx (by kernel_rfl) (fun k hk => by cases hk) (by kernel_rfl) (laid_met os))) ?_
  intro W base args ds gs before hval hW _ hcond hsz hL _ _
  exact contract H enc W base args ds gs before hval hW hsz

theorem said : Rows.NetNobodySaid :=
  OpenClaim.holds_of_cond 6 Try.f6 rfl rfl rfl rfl rfl rfl rfl ⟨rfl, rfl, rfl, rfl, rfl⟩ rfl rfl rfl rfl rfl (by kernel_rfl) Try.func6 (by kernel_rfl)
    (of_decide_eq_true (by kernel_rfl)) (by unfold Func.isWrapper; first | (rw [if_pos (by decide +kernel)]; kernel_rfl) | (rw [if_neg (by decide +kernel)]; exact ⟨rfl, rfl⟩))
    (fun os started H enc _ F => by rw [OpenClaim.pre_eq_preRow]; exact lifted os started H enc F)

/-- THE STATEMENT -/
theorem proved : Rows.NetNobodySaid := said
#print axioms proved
end Go.Proofs.Ytmogacccffkkbaa.netNobody
