/-
  A box that is nil, and one that no call made, refuse all: Put, Again, Report, Timeout tell that there is none, the others tell nothing, for every path and time.
  Conditions: none.
-/
import Derived.Test.YtjceeckcfjjkkaaRows
import Derived.WalkKit
import Derived.ProofKit
import Derived.OpenShut
import Derived.ShutString
import Derived.ChangeOld
import Derived.Below
import Derived.SizedLaws
import Derived.Deep.DeepHandedRow
import Derived.LaidLaws
import Derived.ChangeMaps5
import Derived.Test.YtjceeckcfjjkkaaOcA
import Derived.Test.YtjceeckcfjjkkaaAg
import Derived.Test.YtjceeckcfjjkkaaOcArgs
namespace Go.Proofs.Ytjceeckcfjjkkaa.outboxNobody
open Go.ChangeShapes Go.WideShapes Go.ChangeAt Go.RowKit
open Go.ChangeMaps (open_string shut_string)
set_option linter.unusedVariables false

theorem own : ownKnob Try.prog.godebug = none := by kernel_rfl
theorem laidOut : laidOutB Try.prog = true := by kernel_rfl

open Ba (hidden Has cell_lt)
open Ob
set_option maxRecDepth 8000 in
set_option maxHeartbeats 4000000 in

theorem walk (a0 : Int) (a1 : Int) (w : World) (w0 : (Lit.int .i64 a0).wf = true) (w1 : (Lit.int .i64 a1).wf = true) :
    Calls Try.prog 8 #[.int .i64 a0, .int .i64 a1] w fun e w' => e = .returned (.bool true) ∧ Below w.heap.size w w' := by
  obtain ⟨W3, hW3⟩ : ∃ W3, W3 = (w.alloc (.cells #[.slice none 0 0, .int .u32 0, .slice none 0 0, .int .i64 0] 80)).alloc (.cells #[.pointer none, .pointer (some ⟨w.heap.size, 0, none⟩)] 24) := ⟨_, rfl⟩
  have hO : Ow.Own w W3 [(w.heap.size + 1, #[.pointer none, .pointer (some ⟨w.heap.size, 0, none⟩)], 24), (w.heap.size, #[.slice none 0 0, .int .u32 0, .slice none 0 0, .int .i64 0], 80)] := by
    have := ((Ow.Own.refl w).alloc #[.slice none 0 0, .int .u32 0, .slice none 0 0, .int .i64 0] 80).alloc #[.pointer none, .pointer (some ⟨w.heap.size, 0, none⟩)] 24
    simp only [World.size_alloc] at this
    rw [hW3]
    exact this
  have HO := hidden hO
  have HW3 := hidden hW3
  have PA : Hid (∀ w, Calls Try.prog 18 #[.string ⟨#[97]⟩] w fun e w' => ∃ b cap, e = .returned (pv 0 0 0 false true true (some ⟨b, 0, none⟩) 1 cap) ∧ w.heap.size ≤ b ∧ Row w' (some ⟨b, 0, none⟩) 1 [97] ∧ Below w.heap.size w w') := fun w => Ob.part ⟨#[97]⟩ (by decide) w
  clear hO hW3
  go_enter Try.func8, Try.ntmps8
  go_wp2_with fail
  rw [← HW3.out]
  go_loopw [27] (fun d wr => ∃ k : Nat, d = .int .i64 (k : Int) ∧ k ≤ 2 ∧ Below W3.heap.size W3 wr) (fun d wr => 2 - (intOf d).toNat)
  case atStart => exact ⟨0, rfl, by omega, Below.refl _ _⟩
  case round =>
    obtain ⟨k, rfl, hk, hB⟩ := hrel
    by_cases h2 : k = 2
    · subst h2
      have AW := hidden (Ob.alive wr)
      have HBw := hidden (HO.out.later hB).below
      clear hB
      go_wp2_with fail
      refine Calls.mono AW.out ?_
      rintro e w' ⟨rfl, hb⟩
      go_wp2
      go_ret
      exact ⟨rfl, HBw.out.trans (hb.mono HBw.out.size)⟩
    · obtain ⟨p, hp, hu⟩ : ∃ p, wr.cell? ⟨w.heap.size + 1, k, none⟩ = some (.pointer p) ∧ Un wr p := by
        have k2 := (HO.out.later hB).has (b := w.heap.size + 1) (List.mem_cons_self ..)
        have k1 := (HO.out.later hB).has (b := w.heap.size) (List.mem_cons_of_mem _ (List.mem_cons_self ..))
        rcases (show k = 0 ∨ k = 1 by omega) with rfl | rfl
        · exact ⟨none, k2.cell 0 rfl, .inl rfl⟩
        · exact ⟨some ⟨w.heap.size, 0, none⟩, k2.cell 1 rfl, .inr ⟨_, rfl, k1.cell 2 rfl⟩⟩
      have hlt : (k : Int) < 2 := by omega
      have HU := hidden hu
      have HBr := hidden hB
      clear hu hB h2 hk
      go_wp2_with fail
      refine Calls.mono (PA.out wr) ?_
      rintro e x1 ⟨b, cap, rfl, hb, hr, B1⟩
      have C1 := hidden (Ob.put_no (HU.out.later B1) a0 a1 0 0 0 false true true (some ⟨b, 0, none⟩) 1 cap)
      have HB1 := hidden B1
      clear hb hr B1
      go_wp2_with fail
      refine Calls.mono C1.out ?_
      rintro e x2 ⟨rfl, B2⟩
      have HB2 := hidden (HB1.out.trans (B2.mono HB1.out.size))
      have c2 := Ob.again_no (HU.out.later HB2.out) a0 a1
      simp only [ov, zC] at c2
      have C2 := hidden c2
      clear B2 C1 HB1 c2
      go_wp2_with fail
      refine Calls.mono C2.out ?_
      rintro e x3 ⟨rfl, B3⟩
      have HB3 := hidden (HB2.out.trans (B3.mono HB2.out.size))
      obtain ⟨x4, h4⟩ : ∃ x4, x4 = x3.alloc (.cells #[.int .u32 0, .int .i64 0, .int .i64 0, .int .i64 0, .int .i64 0, .bool false, .int .i64 0, .int .u16 0, .int .u16 0, .int .u32 0, .bool false, .slice none 0 0, .bool false, .bool false] 59) := ⟨_, rfl⟩
      have HB4 : Hid (Below wr.heap.size wr x4) := by rw [h4]; exact HB3.out.alloc HB3.out.size _
      have C3 := hidden (Ob.report_no (now := a1) (c := ⟨3, 0, 0, 0, 0, 0, 0, 0, 0, 0, none, 0, 0, none, 0, 0, none, 0, 0, none, 0, 0, none, 0, 0⟩) (q := ⟨3, 0, [], []⟩) (Q := fun _ => False) (HU.out.later HB4.out) ⟨rfl, rfl, by decide, by decide, Gp.nil _ _, Gp.nil _ _, by decide, by decide⟩ (fun k hk => hk.elim))
      have H4 := hidden h4
      clear B3 C2 HB2 HB3 h4
      go_wp2_with fail
      rw [← H4.out]
      refine Calls.mono C3.out ?_
      rintro e x5 ⟨rfl, B5⟩
      have HB5 := hidden (HB4.out.trans (B5.mono HB4.out.size))
      obtain ⟨x6, h6⟩ : ∃ x6, x6 = x5.alloc (.cells #[.slice none 0 0, .int .i64 0, .int .i64 0] 34) := ⟨_, rfl⟩
      have HB6 : Hid (Below wr.heap.size wr x6) := by rw [h6]; exact HB5.out.alloc HB5.out.size _
      have C4 := hidden (Ob.timeout_no (HU.out.later HB6.out) a0)
      have H6 := hidden h6
      clear B5 C3 HB4 HB5 h6
      go_wp2_with fail
      rw [← H6.out]
      refine Calls.mono C4.out ?_
      rintro e x7 ⟨rfl, B7⟩
      have HB7 := hidden (HB6.out.trans (B7.mono HB6.out.size))
      have c5 := Ob.marked_no (HU.out.later HB7.out)
      simp only [ov, zC] at c5
      have C5 := hidden c5
      clear B7 C4 HB6 c5
      go_wp2_with fail
      refine Calls.mono C5.out ?_
      rintro e x8 ⟨rfl, B8⟩
      have HB8 := hidden (HB7.out.trans (B8.mono HB7.out.size))
      obtain ⟨x9, h9⟩ : ∃ x9, x9 = x8.alloc (.cells #[.int .u32 0, .int .i64 0, .int .i64 0, .int .i64 0, .int .i64 0, .bool false, .int .i64 0, .int .u16 0, .int .u16 0, .int .u32 0, .bool false, .slice none 0 0, .bool false, .bool false] 59) := ⟨_, rfl⟩
      have HB9 : Hid (Below wr.heap.size wr x9) := by rw [h9]; exact HB8.out.alloc HB8.out.size _
      have c6 := Ob.first_no (HU.out.later HB9.out) a0
      simp only [ov, zC] at c6
      have C6 := hidden c6
      have H9 := hidden h9
      clear B8 C5 HB7 HB8 h9 c6
      go_wp2_with fail
      rw [← H9.out]
      refine Calls.mono C6.out ?_
      rintro e y1 ⟨rfl, B10⟩
      have HB10 := hidden (HB9.out.trans (B10.mono HB9.out.size))
      obtain ⟨y2, h10⟩ : ∃ y2, y2 = y1.alloc (.cells #[.int .u32 0, .int .i64 0, .int .i64 0, .int .i64 0, .int .i64 0, .bool false, .int .i64 0, .int .u16 0, .int .u16 0, .int .u32 0, .bool false, .slice none 0 0, .bool false, .bool false] 59) := ⟨_, rfl⟩
      have HB11 : Hid (Below wr.heap.size wr y2) := by rw [h10]; exact HB10.out.alloc HB10.out.size _
      have H10 := hidden h10
      have hu2 := HU.out.later HB11.out
      have D1 := hidden (Ob.flying_no hu2 a0)
      have D2 := hidden (Ob.total_no hu2)
      have D3 := hidden (Ob.len_no hu2)
      have D4 := hidden (Ob.all_no hu2)
      clear B10 C6 HB9 HB10 h10 hu2
      go_wp2_with fail
      rw [← H10.out]
      refine Calls.mono D1.out ?_
      rintro e w' ⟨rfl, rfl⟩
      go_wp2_with fail
      refine Calls.mono D2.out ?_
      rintro e w' ⟨rfl, rfl⟩
      go_wp2_with fail
      refine Calls.mono D3.out ?_
      rintro e w' ⟨rfl, rfl⟩
      go_wp2_with fail
      refine Calls.mono D4.out ?_
      rintro e y3 ⟨rfl, B12⟩
      have HB12 := hidden (HB11.out.trans (B12.mono HB11.out.size))
      have hu3 := HU.out.later HB12.out
      have D5 := hidden (Ob.cum_no hu3)
      have D6 := hidden (Ob.next_no hu3)
      clear B12 D1 D2 D3 D4 HB11 hu3
      go_wp2_with fail
      refine Calls.mono D5.out ?_
      rintro e w' ⟨rfl, rfl⟩
      go_wp2_with fail
      refine Calls.mono D6.out ?_
      rintro e w' ⟨rfl, rfl⟩
      go_wp2
      go_roundw
      case rel => exact ⟨k + 1, by simp, by omega, HBr.out.trans (HB12.out.mono HBr.out.size)⟩
      case measure => simp only [intOf]; omega

set_option maxRecDepth 100000 in
theorem contract (H : Type) (enc : TypeId × Value → H) (W : World) (base : Nat) (args : Array Value) (ds gs : List (DataW H)) (before : List MemPlace)
    (hval : ∀ (j : Nat) t v, Try.f8.params[j]? = some t → args[j]? = some v → Value.okWide Try.prog W .any base t v)
    (hW : DataW.Whole enc Try.prog Try.f8.params.toList Rows.outboxNobodySpec.vars false W args.toList ds gs before)
    (hsz0 : (DataW.weightsEach Try.prog (Try.f8.params.toList ++ Rows.outboxNobodySpec.plain.varTypes Try.prog) (ds ++ gs)).all (· ≤ reachBytes) = true) :
    Calls Try.prog 8 args W fun e W' => ∃ v, e = .returned v ∧ Rows.outboxNobodySpec.post enc Try.prog Try.f8 false true false false W args v W' := by
  have hW' := hW
  obtain ⟨p, q, hA0, hV, rfl, hfz, hnd⟩ := hW
  have hA : DataW.TrodAll enc Try.prog W 0 (fun _ => true) true Try.f8.params.toList args.toList ds p := hA0
  have hsz := hsz0
  rw [Try.params8] at hA hval hsz
  obtain ⟨v0, vs0, d0, ds0, p0, q0, hargs, rfl, rfl, h0, r0⟩ := trodAll_cons hA
  obtain ⟨v1, vs1, d1, ds1, p1, q1, rfl, rfl, rfl, h1, r1⟩ := trodAll_cons r0
  obtain ⟨rfl, rfl, rfl⟩ := trodAll_nil r1
  obtain rfl : args = #[v0, v1] := by cases args; simp_all
  obtain ⟨rfl, rfl⟩ := trodVars_none hV
  obtain ⟨a0, rfl, rfl, rfl, w0⟩ := open_int Try.underlying3 (hval 0 3 v0 rfl rfl) h0
  obtain ⟨a1, rfl, rfl, rfl, w1⟩ := open_int Try.underlying3 (hval 1 3 v1 rfl rfl) h1
  clear hA0 hsz0 hsz
  refine (walk a0 a1 W w0 w1).mono fun e W' ⟨he, bel⟩ => ?_
  subst he
  exact ⟨_, rfl, _, _, _, [], _, [], hW', trodAll_mk1 (shut_bool Try.underlying4 _), (trodAll_cons_mk (shut_int Try.underlying3 w0) (trodAll_cons_mk (shut_int Try.underlying3 w1) trodAll_mk0)), rfl, bel.frame _, fun h => by cases h⟩

noncomputable def laidWorld (os : Os) : World :=
  World.holding Try.prog os ⟨#[], #[], []⟩
set_option maxRecDepth 100000 in
theorem laid_met (os : Os) : laidMet Try.prog Rows.outboxNobodyRow.laid ((laidWorld os).forCall (fun _ _ => 0) ⟨#[], #[.int .i64 0, .int .i64 0], []⟩).memory :=
  laidMet_of_run' 8 (by kernel_rfl) (by kernel_rfl)
set_option maxRecDepth 100000 in
theorem reads (os : Os) {H : Type} (enc : TypeId × Value → H) : ∃ places, DataW.whole enc Try.prog ((laidWorld os).forCall (fun _ _ => 0) ⟨#[], #[.int .i64 0, .int .i64 0], []⟩).memory Try.f8.params.toList Rows.outboxNobodySpec.vars false #[Value.int .i64 0, Value.int .i64 0].toList 8 = some ([.lit (.int .i64 0), .lit (.int .i64 0)], [], places) :=
  ⟨[], by kernel_rfl⟩

set_option maxRecDepth 100000 in
theorem lifted (os : Os) (started : os.Started) (H : Type) (enc : TypeId × Value → H) (F : Stop.Interp) :
    ReturnsInHanded {} Try.checked os 8 .any ((OpenSpec.ofChange Rows.outboxNobodySpec).preRow enc Try.prog Try.f8 Rows.outboxNobodyRow.domain false Rows.outboxNobodyRow.laid) (((OpenSpec.ofChange Rows.outboxNobodySpec).at F).post enc Try.prog Try.f8 false true false false) := by
  obtain ⟨places, hx⟩ := reads os enc
  refine returnsInHanded_of_row (C := Try.checked) (s := OpenSpec.ofChange Rows.outboxNobodySpec) own started (by kernel_rfl) Try.func8
    (witness_row_at (enc := enc) (C := Try.checked) false (laidWorld os) #[.int .i64 0, .int .i64 0] rfl (by kernel_rfl) (by kernel_rfl) (by kernel_rfl)
      (OpenSpec.preRow_of_cond 8 hx (by kernel_rfl) (fun k hk => by cases hk) (by kernel_rfl) (laid_met os))) ?_
  intro W base args ds gs before hval hW _ hcond hsz hL _ _
  exact contract H enc W base args ds gs before hval hW hsz

set_option maxRecDepth 100000 in
theorem said : Rows.OutboxNobodySaid :=
  OpenClaim.holds_of_cond 8 Try.f8 rfl rfl rfl rfl rfl rfl rfl ⟨rfl, rfl, rfl, rfl, rfl⟩ rfl rfl rfl rfl rfl (by kernel_rfl) Try.func8 (by kernel_rfl)
    (of_decide_eq_true (by kernel_rfl)) (by unfold Func.isWrapper; first | (rw [if_pos (by decide +kernel)]; kernel_rfl) | (rw [if_neg (by decide +kernel)]; exact ⟨rfl, rfl⟩))
    (fun os started H enc _ F => by rw [OpenClaim.pre_eq_preRow]; exact lifted os started H enc F)

/-- THE STATEMENT -/
theorem proved : Rows.OutboxNobodySaid := said
#print axioms proved
end Go.Proofs.Ytjceeckcfjjkkaa.outboxNobody
