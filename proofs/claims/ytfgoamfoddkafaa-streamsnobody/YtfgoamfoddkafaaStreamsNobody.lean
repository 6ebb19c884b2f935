/-
  A queue that is nil, and one that no call made, refuse all: Push and Free tell that there is none, the others tell nothing, for every call.
  Conditions: none.
-/
import Derived.Test.YtfgoamfoddkafaaRows
import Derived.WalkKit
import Derived.ProofKit
import Derived.OpenShut
import Derived.ShutString
import Derived.ChangeOld
import Derived.Below
import Derived.SizedLaws
import Derived.Deep.DeepHandedRow
import Derived.LaidLaws
import Derived.ChangeMaps5
import Derived.Test.YtfgoamfoddkafaaSqK
import Derived.Test.YtfgoamfoddkafaaSqArgs
namespace Go.Proofs.Ytfgoamfoddkafaa.streamsNobody
open Go.ChangeShapes Go.WideShapes Go.ChangeAt Go.RowKit
open Go.ChangeMaps (open_string shut_string)
set_option linter.unusedVariables false

theorem own : ownKnob Try.prog.godebug = none := by kernel_rfl
theorem laidOut : laidOutB Try.prog = true := by kernel_rfl

open Ba (hidden Has cell_lt)
open Sq
set_option maxHeartbeats 2000000 in

theorem walk (q0 : Sq.OA) (w : World) (w0 : Sq.OkO w q0) :
    Calls Try.prog 7 #[.agg (Sq.oc q0).toArray] w fun e w' => e = .returned (.bool true) ∧ Below w.heap.size w w' := by
  obtain ⟨kd, st, pr, un, a, l, c, zs, n⟩ := q0
  simp only [Sq.oc, List.toArray]
  obtain ⟨hr, hnil, hst, hpr⟩ := w0
  simp only at hr hnil hst hpr
  obtain ⟨W3, hW3⟩ : ∃ W3, W3 = ((w.alloc (.cells #[.int .i64 kd, .int .u16 st, .int .u32 pr, .bool un, .slice a l c, .int .i64 n] 36)).alloc (.cells #[.slice none 0 0, .int .i64 0, .bool false, .int .i64 0, .int .i64 0, .int .i64 0] 57)).alloc (.cells #[.pointer none, .pointer (some ⟨w.heap.size + 1, 0, none⟩)] 23) := ⟨_, rfl⟩
  have hB3 : Below w.heap.size w W3 := by rw [hW3]; exact (((Below.refl _ w).alloc (Nat.le_refl _) _).alloc (by simp) _).alloc (by simp; omega) _
  have b0 : Has W3 w.heap.size #[.int .i64 kd, .int .u16 st, .int .u32 pr, .bool un, .slice a l c, .int .i64 n] 36 := by
    rw [hW3]
    exact ((Has.new w _ _).later ((Below.refl _ _).alloc (Nat.le_refl _) _)).later ((Below.refl _ _).alloc (Nat.le_refl _) _)
  have b1 : Has W3 (w.heap.size + 1) #[.slice none 0 0, .int .i64 0, .bool false, .int .i64 0, .int .i64 0, .int .i64 0] 57 := by
    have := Has.new (w.alloc (.cells #[.int .i64 kd, .int .u16 st, .int .u32 pr, .bool un, .slice a l c, .int .i64 n] 36)) #[.slice none 0 0, .int .i64 0, .bool false, .int .i64 0, .int .i64 0, .int .i64 0] 57
    rw [World.size_alloc] at this
    rw [hW3]
    exact this.later ((Below.refl _ _).alloc (Nat.le_refl _) _)
  have b2 : Has W3 (w.heap.size + 2) #[.pointer none, .pointer (some ⟨w.heap.size + 1, 0, none⟩)] 23 := by
    have := Has.new ((w.alloc (.cells #[.int .i64 kd, .int .u16 st, .int .u32 pr, .bool un, .slice a l c, .int .i64 n] 36)).alloc (.cells #[.slice none 0 0, .int .i64 0, .bool false, .int .i64 0, .int .i64 0, .int .i64 0] 57)) #[.pointer none, .pointer (some ⟨w.heap.size + 1, 0, none⟩)] 23
    rw [World.size_alloc, World.size_alloc] at this
    rw [hW3]
    exact this
  have HW3 := hidden hW3
  have HB := hidden (And.intro b0 (And.intro b1 b2))
  have HB3 := hidden hB3
  clear hr hnil hW3 hB3 b0 b1 b2
  go_enter Try.func7, Try.ntmps7
  go_wp2_with fail
  rw [← HW3.out]
  go_loopw [16] (fun d wr => ∃ k : Nat, d = .int .i64 (k : Int) ∧ k ≤ 2 ∧ Below W3.heap.size W3 wr) (fun d wr => 2 - (intOf d).toNat)
  case atStart => exact ⟨0, rfl, by omega, Below.refl _ _⟩
  case round =>
    obtain ⟨k, rfl, hk, hB⟩ := hrel
    by_cases h2 : k = 2
    · subst h2
      have AW := hidden (Sq.awake wr)
      have HBw := hidden hB
      go_wp2_with fail
      refine Calls.mono AW.out ?_
      rintro e w' ⟨rfl, hb⟩
      go_wp2
      go_ret
      exact ⟨rfl, (HB3.out.trans (HBw.out.mono HB3.out.size)).trans (hb.mono (Nat.le_trans HB3.out.size HBw.out.size))⟩
    · obtain ⟨p, hp, hu⟩ : ∃ p, wr.cell? ⟨w.heap.size + 2, k, none⟩ = some (.pointer p) ∧ Un wr p := by
        have k1 := HB.out.2.1.later hB
        have k2 := HB.out.2.2.later hB
        rcases (show k = 0 ∨ k = 1 by omega) with rfl | rfl
        · exact ⟨none, k2.cell 0 rfl, .inl rfl⟩
        · exact ⟨some ⟨w.heap.size + 1, 0, none⟩, k2.cell 1 rfl, .inr ⟨_, rfl, k1.cell 0 rfl⟩⟩
      have x5 := (HB.out.1.later hB).cell 5 rfl
      have TN := hidden (Sq.take_no hu n)
      have hlt : (k : Int) < 2 := by omega
      have HU := hidden hu
      have HBr := hidden hB
      clear hu hB h2 hk
      go_wp2_with fail
      refine Calls.mono TN.out ?_
      rintro e w4 ⟨rfl, hB4⟩
      unfold Sq.zPv
      obtain ⟨w5, hw5⟩ : ∃ w5, w5 = w4.alloc (.cells #[.int .u16 0, .int .u16 0, .int .u32 0, .bool false, .slice none 0 0, .bool false, .bool false] 44) := ⟨_, rfl⟩
      have hB5 : Below wr.heap.size wr w5 := by rw [hw5]; exact (hB4.alloc hB4.size _)
      have un5 : Un w5 p := by
        rcases HU.out with rfl | ⟨t, rfl, hc⟩
        · exact .inl rfl
        · exact .inr ⟨t, rfl, (hB5.cell (p := ⟨t, 0, none⟩) (cell_lt hc)).trans hc⟩
      have NN := hidden (Sq.Next_no un5)
      have HW5 := hidden hw5
      have HB5 := hidden hB5
      have HU5 := hidden un5
      clear hB4 hw5 hB5 un5
      go_wp2_with fail
      rw [← HW5.out]
      refine Calls.mono NN.out ?_
      rintro e w6 ⟨rfl, hB6⟩
      have un6 : Un w6 p := by
        rcases HU5.out with rfl | ⟨t, rfl, hc⟩
        · exact .inl rfl
        · exact .inr ⟨t, rfl, (hB6.cell (p := ⟨t, 0, none⟩) (cell_lt hc)).trans hc⟩
      have hBall : Below W3.heap.size W3 w6 := HBr.out.trans ((HB5.out.trans (hB6.mono HB5.out.size)).mono HBr.out.size)
      have bx := HB.out.1.later hBall
      have y1 := bx.cell 1 rfl
      have y2 := bx.cell 2 rfl
      have y3 := bx.cell 3 rfl
      have y4 := bx.cell 4 rfl
      have y5 := bx.cell 5 rfl
      have unv : ∀ v : World, v.heap = w6.heap → Un v p := fun v hv => by
        rcases un6 with rfl | ⟨t, rfl, hc⟩
        · exact .inl rfl
        · exact .inr ⟨t, rfl, by rw [← hc]; exact World.cell?_of_block (by rw [hv])⟩
      have C1 : Hid (∀ v : World, v.heap = w6.heap → Calls Try.prog 13 #[.pointer p, .int .u16 st, .int .u32 pr, .bool un, .slice a l c] v fun e w' => e = .returned (.int .i64 4) ∧ w' = v) := fun v hv => (Sq.push_no (unv v hv) st pr un _).mono fun e w' h => ⟨h.1, h.2.symm⟩
      have C2 : Hid (∀ v : World, v.heap = w6.heap → Calls Try.prog 18 #[.pointer p, .int .i64 n] v fun e w' => e = .returned (.int .i64 4) ∧ w' = v) := fun v hv => (Sq.free_no (unv v hv) n).mono fun e w' h => ⟨h.1, h.2.symm⟩
      have C3 : Hid (∀ v : World, v.heap = w6.heap → Calls Try.prog 16 #[.pointer p] v fun e w' => e = .returned (.int .i64 0) ∧ w' = v) := fun v hv => (Sq.held_no (unv v hv)).mono fun e w' h => ⟨h.1, h.2.symm⟩
      have C4 : Hid (∀ v : World, v.heap = w6.heap → Calls Try.prog 15 #[.pointer p] v fun e w' => e = .returned (.int .i64 0) ∧ w' = v) := fun v hv => (Sq.waiting_no (unv v hv)).mono fun e w' h => ⟨h.1, h.2.symm⟩
      have C5 : Hid (∀ v : World, v.heap = w6.heap → Calls Try.prog 19 #[.pointer p] v fun e w' => e = .returned (.int .i64 0) ∧ w' = v) := fun v hv => (Sq.taken_no (unv v hv)).mono fun e w' h => ⟨h.1, h.2.symm⟩
      have C6 : Hid (∀ v : World, v.heap = w6.heap → Calls Try.prog 20 #[.pointer p, .int .u16 st] v fun e w' => e = .returned (.int .i64 0) ∧ w' = v) := fun v hv => (Sq.count_no (unv v hv) st).mono fun e w' h => ⟨h.1, h.2.symm⟩
      have HBA := hidden hBall
      have hw3 : IntKind.i64.wrap ((k : Int) + 1) = (k : Int) + 1 := by rw [IntKind.wrap_i64]; omega
      clear un6 unv bx hB6 hBall
      go_wp2_with fail
      go_quiet (first | (go_at_call 13; exact Calls.quiet_of_same (C1.out _ rfl)) | (go_at_call 18; exact Calls.quiet_of_same (C2.out _ rfl)) | (go_at_call 16; exact Calls.quiet_of_same (C3.out _ rfl)) | (go_at_call 15; exact Calls.quiet_of_same (C4.out _ rfl)) | (go_at_call 19; exact Calls.quiet_of_same (C5.out _ rfl)) | (go_at_call 20; exact Calls.quiet_of_same (C6.out _ rfl)))
      go_wp2
      go_roundw
      case rel => exact ⟨k + 1, by simp, by omega, HBA.out.trans ⟨rfl, rfl, rfl, Nat.le_refl _, fun _ _ => rfl⟩⟩
      case measure => simp only [intOf]; omega

theorem contract (H : Type) (enc : TypeId × Value → H) (W : World) (base : Nat) (args : Array Value) (ds gs : List (DataW H)) (before : List MemPlace)
    (hval : ∀ (j : Nat) t v, Try.f7.params[j]? = some t → args[j]? = some v → Value.okWide Try.prog W .any base t v)
    (hW : DataW.Whole enc Try.prog Try.f7.params.toList Rows.streamsNobodySpec.vars false W args.toList ds gs before)
    (hsz0 : (DataW.weightsEach Try.prog (Try.f7.params.toList ++ Rows.streamsNobodySpec.plain.varTypes Try.prog) (ds ++ gs)).all (· ≤ reachBytes) = true) :
    Calls Try.prog 7 args W fun e W' => ∃ v, e = .returned v ∧ Rows.streamsNobodySpec.post enc Try.prog Try.f7 false true false false W args v W' := by
  have hW' := hW
  obtain ⟨p, q, hA0, hV, rfl, hfz, hnd⟩ := hW
  have hA : DataW.TrodAll enc Try.prog W 0 (fun _ => true) true Try.f7.params.toList args.toList ds p := hA0
  have hsz := hsz0
  rw [Try.params7] at hA hval hsz
  obtain ⟨v0, vs0, d0, ds0, p0, q0, hargs, rfl, rfl, h0, r0⟩ := trodAll_cons hA
  obtain ⟨rfl, rfl, rfl⟩ := trodAll_nil r0
  obtain rfl : args = #[v0] := by cases args; simp_all
  obtain ⟨rfl, rfl⟩ := trodVars_none hV
  have k0 := h0
  have lt0 : ∀ x ∈ p0, x.block < W.heap.size := by obtain ⟨m, hm⟩ := k0; exact DataW.trod_lt m _ _ _ hm
  have sz0 : (d0.weights Try.prog 36).all (· ≤ reachBytes) = true := List.all_eq_true.2 fun m hm => List.all_eq_true.1 hsz m (DataW.weights_mem_each (j := 0) rfl rfl m hm)
  obtain ⟨q0, rfl, w0⟩ : ∃ q, v0 = .agg (Sq.oc q).toArray ∧ Sq.OkO W q := by
    obtain ⟨fuel, hf⟩ := h0
    exact Sq.op_arg (hval 0 36 v0 rfl rfl) hf sz0
  clear hA0 hsz0 hsz
  refine (walk q0 W w0).mono fun e W' ⟨he, bel⟩ => ?_
  subst he
  exact ⟨_, rfl, _, _, _, [], _, [], hW', trodAll_mk1 (shut_bool Try.underlying4 _), (trodAll_cons_mk (Below.trod laidOut (by kernel_rfl) (of_decide_eq_true (by kernel_rfl)) k0 bel lt0) trodAll_mk0), rfl, bel.frame _, fun h => by cases h⟩

noncomputable def laidWorld (os : Os) : World :=
  World.holding Try.prog os ⟨#[], #[], []⟩
theorem laid_met (os : Os) : laidMet Try.prog Rows.streamsNobodyRow.laid ((laidWorld os).forCall (fun _ _ => 0) ⟨#[], #[.agg #[.int .i64 0, .int .u16 0, .int .u32 0, .bool false, .slice none 0 0, .int .i64 0]], []⟩).memory :=
  laidMet_of_run' 8 (by kernel_rfl) (by kernel_rfl)
theorem reads (os : Os) {H : Type} (enc : TypeId × Value → H) : ∃ places, DataW.whole enc Try.prog ((laidWorld os).forCall (fun _ _ => 0) ⟨#[], #[.agg #[.int .i64 0, .int .u16 0, .int .u32 0, .bool false, .slice none 0 0, .int .i64 0]], []⟩).memory Try.f7.params.toList Rows.streamsNobodySpec.vars false #[Value.agg #[.int .i64 0, .int .u16 0, .int .u32 0, .bool false, .slice none 0 0, .int .i64 0]].toList 8 = some ([.agg [.lit (.int .i64 0), .lit (.int .u16 0), .lit (.int .u32 0), .lit (.bool false), .nil, .lit (.int .i64 0)]], [], places) :=
  ⟨[], by kernel_rfl⟩

set_option maxRecDepth 100000 in
theorem lifted (os : Os) (started : os.Started) (H : Type) (enc : TypeId × Value → H) (F : Stop.Interp) :
    ReturnsInHanded {} Try.checked os 7 .any ((OpenSpec.ofChange Rows.streamsNobodySpec).preRow enc Try.prog Try.f7 Rows.streamsNobodyRow.domain false Rows.streamsNobodyRow.laid) (((OpenSpec.ofChange Rows.streamsNobodySpec).at F).post enc Try.prog Try.f7 false true false false) := by
  obtain ⟨places, hx⟩ := reads os enc
  refine returnsInHanded_of_row (C := Try.checked) (s := OpenSpec.ofChange Rows.streamsNobodySpec) own started (by kernel_rfl) Try.func7
    (witness_row_at (enc := enc) (C := Try.checked) false (laidWorld os) #[.agg #[.int .i64 0, .int .u16 0, .int .u32 0, .bool false, .slice none 0 0, .int .i64 0]] rfl (by kernel_rfl) (by kernel_rfl) (by kernel_rfl)
      (OpenSpec.preRow_of_cond 8 hx (by kernel_rfl) (fun k hk => by cases hk) (by kernel_rfl) (laid_met os))) ?_
  intro W base args ds gs before hval hW _ hcond hsz hL _ _
  exact contract H enc W base args ds gs before hval hW hsz

theorem said : Rows.StreamsNobodySaid :=
  OpenClaim.holds_of_cond 7 Try.f7 rfl rfl rfl rfl rfl rfl rfl ⟨rfl, rfl, rfl, rfl, rfl⟩ rfl rfl rfl rfl rfl (by kernel_rfl) Try.func7 (by kernel_rfl)
    (of_decide_eq_true (by kernel_rfl)) (by unfold Func.isWrapper; first | (rw [if_pos (by decide +kernel)]; kernel_rfl) | (rw [if_neg (by decide +kernel)]; exact ⟨rfl, rfl⟩))
    (fun os started H enc _ F => by rw [OpenClaim.pre_eq_preRow]; exact lifted os started H enc F)

/-- THE STATEMENT -/
theorem proved : Rows.StreamsNobodySaid := said
#print axioms proved
end Go.Proofs.Ytfgoamfoddkafaa.streamsNobody
