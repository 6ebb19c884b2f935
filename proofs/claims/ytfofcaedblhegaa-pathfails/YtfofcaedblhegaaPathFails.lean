/-
  What PathFails says of every call is true: errors in a row make a path fail, then inactive, and one good word makes it active (P11.2, P11.6). Conditions: none.
-/
import Derived.Test.YtfofcaedblhegaaRows
import Derived.WalkKit
import Derived.ProofKit
import Derived.OpenShut
import Derived.ShutString
import Derived.ChangeOld
import Derived.Below
import Derived.SizedLaws
import Derived.Deep.DeepHandedRow
import Derived.LaidLaws
import Derived.ChangeMaps5
import Derived.Test.YtfofcaedblhegaaPaE
import Derived.Test.YtfofcaedblhegaaAg
namespace Go.Proofs.Ytfofcaedblhegaa.pathFails
open Go.ChangeShapes Go.WideShapes Go.ChangeAt Go.RowKit
open Go.ChangeMaps (open_string shut_string)
set_option linter.unusedVariables false

theorem own : ownKnob Try.prog.godebug = none := by kernel_rfl
theorem laidOut : laidOutB Try.prog = true := by kernel_rfl

theorem kd23 : Ag.Kind Try.prog 23 3 (fun q : Int × Int × Int => [.int .i64 q.1, .int .i64 q.2.1, .int .i64 q.2.2]) (fun q => (Lit.int .i64 q.1).wf = true ∧ (Lit.int .i64 q.2.1).wf = true ∧ (Lit.int .i64 q.2.2).wf = true) := by
  refine ⟨by kernel_rfl, by decide, fun _ => rfl, fun {H enc W base held fuel cl x} h _ => ?_⟩
  obtain ⟨xs, n, _, _, hcl, hxl, hfield⟩ := DataW.trod_struct Try.underlying23 h
  rw [show Try.prog.cellsOf 23 = 3 by kernel_rfl] at hcl
  match cl, hcl with
  | [v0, v1, v2], _ =>
    match xs, hxl with
    | [y0, y1, y2], _ =>
      have g0 := hfield 0 _ rfl
      simp [show Try.prog.cellsOf 3 = 1 by kernel_rfl] at g0
      obtain ⟨n0, e0, _, w0⟩ := DataW.trod_int Try.underlying3 g0
      simp at e0
      subst e0
      have g1 := hfield 1 _ rfl
      simp [show Try.prog.cellsOf 3 = 1 by kernel_rfl] at g1
      obtain ⟨n1, e1, _, w1⟩ := DataW.trod_int Try.underlying3 g1
      simp at e1
      subst e1
      have g2 := hfield 2 _ rfl
      simp [show Try.prog.cellsOf 3 = 1 by kernel_rfl] at g2
      obtain ⟨n2, e2, _, w2⟩ := DataW.trod_int Try.underlying3 g2
      simp at e2
      subst e2
      exact ⟨(n0, n1, n2), rfl, w0, w1, w2⟩
open Ba (hidden Has)
open Ow (Own)
open Pa
set_option maxHeartbeats 2000000 in
set_option maxRecDepth 20000 in

theorem walk (q0 : Int × Int × Int) (a1 : Int) (a2 : Int) (w : World) (w0 : (fun q => (Lit.int .i64 q.1).wf = true ∧ (Lit.int .i64 q.2.1).wf = true ∧ (Lit.int .i64 q.2.2).wf = true) q0) (w1 : (Lit.int .i64 a1).wf = true) (w2 : (Lit.int .u8 a2).wf = true) :
    Calls Try.prog 4 #[.agg ((fun q : Int × Int × Int => [.int .i64 q.1, .int .i64 q.2.1, .int .i64 q.2.2]) q0).toArray, .int .i64 a1, .int .u8 a2] w fun e w' => e = .returned (.bool true) ∧ Below w.heap.size w w' := by
  obtain ⟨mx, fl, pa⟩ := q0
  have hn : 0 ≤ a2 ∧ a2 ≤ 255 := by
    simp [Lit.wf, IntKind.min, IntKind.max, IntKind.signed, IntKind.bits] at w2
    omega
  obtain ⟨n1, n2⟩ := hn
  have AW := hidden Pa.alive
  have O := hidden (arg3 w mx fl pa)
  clear w0 w1 w2
  cases hc : (okC mx fl pa && tok a1) with
  | false =>
    have NO : Hid (∀ W, Calls Try.prog 7 #[.agg #[.int .i64 mx, .int .i64 fl, .int .i64 pa], .int .i64 a1] W fun e w' => e = .returned (.tuple #[.pointer none, .int .i64 (newE mx fl pa a1)]) ∧ Below W.heap.size W w') := fun W => new_no hc
    have he := newE_no hc
    have he2 : (newE mx fl pa a1 == 0) = false := beq_eq_false_iff_ne.2 he
    have he3 : (newE mx fl pa a1 != 0) = true := bne_iff_ne.2 he
    generalize newE mx fl pa a1 = x at NO he he2 he3
    clear hc
    go_enter Try.func4, Try.ntmps4
    go_wp2_with fail
    refine Calls.mono (NO.out _) ?_
    rintro e w1 ⟨rfl, hB⟩
    have O1 := hidden (O.out.later hB)
    clear hB O
    go_wp2_with fail
    refine Calls.mono (AW.out _) ?_
    rintro e w2 ⟨rfl, hB⟩
    have O2 := hidden (O1.out.later hB).below
    clear hB O1
    go_wp2
    go_ret
    exact ⟨rfl, O2.out⟩
  | true =>
    have hc1 : okC mx fl pa = true := by revert hc; cases okC mx fl pa <;> simp
    have hc2 : tok a1 = true := by revert hc; cases tok a1 <;> simp
    have NO : Hid (∀ W, Calls Try.prog 7 #[.agg #[.int .i64 mx, .int .i64 fl, .int .i64 pa], .int .i64 a1] W fun e w' => Made W (newS mx fl pa a1) e w') := fun W => new_ok hc1 hc2
    have HI := hidden (newI hc1 hc2)
    have hfm : fl ≤ mx := (of_decide_eq_true hc1).1.2.1
    have HS0 : Hid ((newS mx fl pa a1).er = 0 ∧ (newS mx fl pa a1).mx = mx ∧ (newS mx fl pa a1).fl = fl) := ⟨rfl, rfl, rfl⟩
    generalize newS mx fl pa a1 = s0 at NO HI HS0
    clear hc hc1 hc2
    have FA : Hid (∀ (W : World) (b : Nat) (q : Int), 0 ≤ q → Cd W b (rowS s0 q) → Calls Try.prog 12 #[.pointer (some ⟨b, 0, none⟩)] W fun e w' => ∃ x, e = .returned (.tuple #[.bool x, .int .i64 0]) ∧ Cd w' b (rowS s0 (q + 1)) ∧ Ba.Only [b] W w') := fun W b q hq h => (failX h (row_inv HI.out hq)).mono (by rintro e w' ⟨rfl, h1, h2⟩; exact ⟨_, rfl, row_next hq ▸ h1, h2⟩)
    have ST : Hid (∀ (W : World) (b : Nat), Cd W b (rowS s0 a2) → Calls Try.prog 13 #[.pointer (some ⟨b, 0, none⟩)] W fun e w' => e = .returned (.int .i64 (if mx < a2 then 3 else if fl < a2 then 2 else 1)) ∧ Below W.heap.size W w') := fun W b h => by
      have := stateX h (row_inv HI.out n1)
      rw [row_state HI.out, HS0.out.2.1, HS0.out.2.2] at this
      exact this
    have GO : Hid (∀ (W : World) (b : Nat), Cd W b (rowS s0 a2) → Calls Try.prog 14 #[.pointer (some ⟨b, 0, none⟩)] W fun e w' => e = .returned (.tuple #[.bool (!(decide ((if mx < a2 then 3 else if fl < a2 then 2 else 1 : Int) = 1))), .int .i64 0]) ∧ Cd w' b (goodS (rowS s0 a2)) ∧ Ba.Only [b] W w') := fun W b h => by
      have := goodX h (row_inv HI.out n1)
      rw [good_chg (row_inv HI.out n1), row_state HI.out, HS0.out.2.1, HS0.out.2.2] at this
      exact this
    have S2 : Hid (∀ (W : World) (b : Nat), Cd W b (goodS (rowS s0 a2)) → Calls Try.prog 13 #[.pointer (some ⟨b, 0, none⟩)] W fun e w' => e = .returned (.int .i64 1) ∧ Below W.heap.size W w') := fun W b h => by
      have := stateX h (row_inv HI.out n1).good
      rw [good_state (row_inv HI.out n1)] at this
      exact this
    have ER : Hid (∀ (W : World) (b : Nat), Cd W b (goodS (rowS s0 a2)) → Calls Try.prog 15 #[.pointer (some ⟨b, 0, none⟩)] W fun e w' => e = .returned (.int .i64 0) ∧ W = w') := fun W b h => errorsX h (row_inv HI.out n1).good
    have HR : Hid (rowS s0 0 = s0) := row_zero HI.out HS0.out.1
    generalize goodS (rowS s0 a2) = s3 at GO S2 ER
    clear HI HS0
    go_enter Try.func4, Try.ntmps4
    go_wp2_with fail
    refine Calls.mono (NO.out _) ?_
    rintro e w1 ⟨b, rfl, hM⟩
    have O1 : Hid (Own w w1 (LC w b (rowS s0 0) mx fl pa)) := HR.out.symm ▸ own_join O.out hM
    clear hM O NO HR
    go_wp2_with fail
    go_loopw [9] (fun i wr => ∃ q : Int, 0 ≤ q ∧ q ≤ a2 ∧ i = .int .i64 q ∧ Hid (Own w wr (LC w b (rowS s0 q) mx fl pa))) (fun i _ => a2.toNat - (intOf i).toNat)
    case atStart => exact ⟨0, by omega, by omega, rfl, O1.out⟩
    case round =>
      obtain ⟨q, j1, j2, rfl, HO⟩ := hrel
      by_cases hq : q < a2
      · go_wp2_with fail
        refine Calls.mono (FA.out _ _ _ j1 (lc_has HO.out)) ?_
        rintro e w2 ⟨x, rfl, h1, h2⟩
        have O2 := hidden (lc_turn HO.out h1 h2)
        clear h1 h2
        go_wp2
        go_roundw
        case rel => exact ⟨_, by omega, by omega, rfl, O2.out⟩
        case measure => simp [intOf]; omega
      · obtain rfl : q = a2 := by omega
        obtain ⟨⟨c0, c1, c2⟩, hl⟩ := lc_cells HO.out
        clear hq
        by_cases h1 : mx < q
        · have h2 : fl < q := by omega
          rw [show (if mx < q then 3 else if fl < q then 2 else 1 : Int) = 3 from if_pos h1] at ST GO
          rw [show (!(decide ((3 : Int) = 1))) = true by decide] at GO
          go_wp2_with fail
          refine Calls.mono (ST.out _ _ (lc_has HO.out)) ?_
          rintro e w2 ⟨rfl, hB⟩
          have O2 := hidden (HO.out.later hB)
          clear hB HO c0 c1 c2
          go_wp2_with fail
          refine Calls.mono (GO.out _ _ (lc_has O2.out)) ?_
          rintro e w3 ⟨rfl, h8, h9⟩
          have O3 := hidden (lc_turn O2.out h8 h9)
          clear h8 h9 O2
          go_wp2_with fail
          refine Calls.mono (S2.out _ _ (lc_has O3.out)) ?_
          rintro e w4 ⟨rfl, hB⟩
          have O4 := hidden (O3.out.later hB)
          clear hB O3
          go_wp2_with fail
          refine Calls.mono (ER.out _ _ (lc_has O4.out)) ?_
          rintro e w' ⟨rfl, rfl⟩
          go_wp2_with fail
          refine Calls.mono (AW.out _) ?_
          rintro e w5 ⟨rfl, hB⟩
          have O5 := hidden (O4.out.later hB).below
          clear hB O4
          go_wp2
          go_ret
          exact ⟨rfl, O5.out⟩
        · by_cases h2 : fl < q
          · have h3 : q ≤ mx := by omega
            rw [show (if mx < q then 3 else if fl < q then 2 else 1 : Int) = 2 by rw [if_neg h1, if_pos h2]] at ST GO
            rw [show (!(decide ((2 : Int) = 1))) = true by decide] at GO
            clear h1
            go_wp2_with fail
            refine Calls.mono (ST.out _ _ (lc_has HO.out)) ?_
            rintro e w2 ⟨rfl, hB⟩
            have O2 := hidden (HO.out.later hB)
            clear hB HO c0 c1 c2
            go_wp2_with fail
            refine Calls.mono (GO.out _ _ (lc_has O2.out)) ?_
            rintro e w3 ⟨rfl, h8, h9⟩
            have O3 := hidden (lc_turn O2.out h8 h9)
            clear h8 h9 O2
            go_wp2_with fail
            refine Calls.mono (S2.out _ _ (lc_has O3.out)) ?_
            rintro e w4 ⟨rfl, hB⟩
            have O4 := hidden (O3.out.later hB)
            clear hB O3
            go_wp2_with fail
            refine Calls.mono (ER.out _ _ (lc_has O4.out)) ?_
            rintro e w' ⟨rfl, rfl⟩
            go_wp2_with fail
            refine Calls.mono (AW.out _) ?_
            rintro e w5 ⟨rfl, hB⟩
            have O5 := hidden (O4.out.later hB).below
            clear hB O4
            go_wp2
            go_ret
            exact ⟨rfl, O5.out⟩
          · have h3 : q ≤ mx := by omega
            have h4 : q ≤ fl := by omega
            rw [show (if mx < q then 3 else if fl < q then 2 else 1 : Int) = 1 by rw [if_neg h1, if_neg h2]] at ST GO
            rw [show (!(decide ((1 : Int) = 1))) = false by decide] at GO
            clear h1 h2
            go_wp2_with fail
            refine Calls.mono (ST.out _ _ (lc_has HO.out)) ?_
            rintro e w2 ⟨rfl, hB⟩
            have O2 := hidden (HO.out.later hB)
            clear hB HO c0 c1 c2
            go_wp2_with fail
            refine Calls.mono (GO.out _ _ (lc_has O2.out)) ?_
            rintro e w3 ⟨rfl, h8, h9⟩
            have O3 := hidden (lc_turn O2.out h8 h9)
            clear h8 h9 O2
            go_wp2_with fail
            refine Calls.mono (S2.out _ _ (lc_has O3.out)) ?_
            rintro e w4 ⟨rfl, hB⟩
            have O4 := hidden (O3.out.later hB)
            clear hB O3
            go_wp2_with fail
            refine Calls.mono (ER.out _ _ (lc_has O4.out)) ?_
            rintro e w' ⟨rfl, rfl⟩
            go_wp2_with fail
            refine Calls.mono (AW.out _) ?_
            rintro e w5 ⟨rfl, hB⟩
            have O5 := hidden (O4.out.later hB).below
            clear hB O4
            go_wp2
            go_ret
            exact ⟨rfl, O5.out⟩

theorem contract (H : Type) (enc : TypeId × Value → H) (W : World) (base : Nat) (args : Array Value) (ds gs : List (DataW H)) (before : List MemPlace)
    (hval : ∀ (j : Nat) t v, Try.f4.params[j]? = some t → args[j]? = some v → Value.okWide Try.prog W .any base t v)
    (hW : DataW.Whole enc Try.prog Try.f4.params.toList Rows.pathFailsSpec.vars false W args.toList ds gs before)
    (hsz0 : (DataW.weightsEach Try.prog (Try.f4.params.toList ++ Rows.pathFailsSpec.plain.varTypes Try.prog) (ds ++ gs)).all (· ≤ reachBytes) = true) :
    Calls Try.prog 4 args W fun e W' => ∃ v, e = .returned v ∧ Rows.pathFailsSpec.post enc Try.prog Try.f4 false true false false W args v W' := by
  have hW' := hW
  obtain ⟨p, q, hA0, hV, rfl, hfz, hnd⟩ := hW
  have hA : DataW.TrodAll enc Try.prog W 0 (fun _ => true) true Try.f4.params.toList args.toList ds p := hA0
  have hsz := hsz0
  rw [Try.params4] at hA hval hsz
  obtain ⟨v0, vs0, d0, ds0, p0, q0, hargs, rfl, rfl, h0, r0⟩ := trodAll_cons hA
  obtain ⟨v1, vs1, d1, ds1, p1, q1, rfl, rfl, rfl, h1, r1⟩ := trodAll_cons r0
  obtain ⟨v2, vs2, d2, ds2, p2, q2, rfl, rfl, rfl, h2, r2⟩ := trodAll_cons r1
  obtain ⟨rfl, rfl, rfl⟩ := trodAll_nil r2
  obtain rfl : args = #[v0, v1, v2] := by cases args; simp_all
  obtain ⟨rfl, rfl⟩ := trodVars_none hV
  have k0 := h0
  have lt0 : ∀ x ∈ p0, x.block < W.heap.size := by obtain ⟨m, hm⟩ := k0; exact DataW.trod_lt m _ _ _ hm
  have sz0 : (d0.weights Try.prog 23).all (· ≤ reachBytes) = true := List.all_eq_true.2 fun m hm => List.all_eq_true.1 hsz m (DataW.weights_mem_each (j := 0) rfl rfl m hm)
  obtain ⟨q0, rfl, w0⟩ : ∃ q, v0 = .agg ((fun q : Int × Int × Int => [.int .i64 q.1, .int .i64 q.2.1, .int .i64 q.2.2]) q).toArray ∧ (fun q => (Lit.int .i64 q.1).wf = true ∧ (Lit.int .i64 q.2.1).wf = true ∧ (Lit.int .i64 q.2.2).wf = true) q := by
    obtain ⟨fuel, hf⟩ := h0
    exact Ag.one_arg kd23 Try.underlying23 (hval 0 23 v0 rfl rfl) hf sz0
  obtain ⟨a1, rfl, rfl, rfl, w1⟩ := open_int Try.underlying3 (hval 1 3 v1 rfl rfl) h1
  obtain ⟨a2, rfl, rfl, rfl, w2⟩ := open_int Try.underlying5 (hval 2 5 v2 rfl rfl) h2
  clear hA0 hsz0 hsz
  refine (walk q0 a1 a2 W w0 w1 w2).mono fun e W' ⟨he, bel⟩ => ?_
  subst he
  exact ⟨_, rfl, _, _, _, [], _, [], hW', trodAll_mk1 (shut_bool Try.underlying4 _), (trodAll_cons_mk (Below.trod laidOut (by kernel_rfl) (of_decide_eq_true (by kernel_rfl)) k0 bel lt0) (trodAll_cons_mk (shut_int Try.underlying3 w1) (trodAll_cons_mk (shut_int Try.underlying5 w2) trodAll_mk0))), rfl, bel.frame _, fun h => by cases h⟩

noncomputable def laidWorld (os : Os) : World :=
  World.holding Try.prog os ⟨#[], #[], []⟩
theorem laid_met (os : Os) : laidMet Try.prog Rows.pathFailsRow.laid ((laidWorld os).forCall (fun _ _ => 0) ⟨#[], #[.agg #[.int .i64 0, .int .i64 0, .int .i64 0], .int .i64 0, .int .u8 0], []⟩).memory :=
  laidMet_of_run' 8 (by kernel_rfl) (by kernel_rfl)
theorem reads (os : Os) {H : Type} (enc : TypeId × Value → H) : ∃ places, DataW.whole enc Try.prog ((laidWorld os).forCall (fun _ _ => 0) ⟨#[], #[.agg #[.int .i64 0, .int .i64 0, .int .i64 0], .int .i64 0, .int .u8 0], []⟩).memory Try.f4.params.toList Rows.pathFailsSpec.vars false #[Value.agg #[.int .i64 0, .int .i64 0, .int .i64 0], Value.int .i64 0, Value.int .u8 0].toList 8 = some ([.agg [.lit (.int .i64 0), .lit (.int .i64 0), .lit (.int .i64 0)], .lit (.int .i64 0), .lit (.int .u8 0)], [], places) :=
  ⟨[], by kernel_rfl⟩

set_option maxRecDepth 100000 in
theorem lifted (os : Os) (started : os.Started) (H : Type) (enc : TypeId × Value → H) (F : Stop.Interp) :
    ReturnsInHanded {} Try.checked os 4 .any ((OpenSpec.ofChange Rows.pathFailsSpec).preRow enc Try.prog Try.f4 Rows.pathFailsRow.domain false Rows.pathFailsRow.laid) (((OpenSpec.ofChange Rows.pathFailsSpec).at F).post enc Try.prog Try.f4 false true false false) := by
  obtain ⟨places, hx⟩ := reads os enc
  refine returnsInHanded_of_row (C := Try.checked) (s := OpenSpec.ofChange Rows.pathFailsSpec) own started (by kernel_rfl) Try.func4
    (witness_row_at (enc := enc) (C := Try.checked) false (laidWorld os) #[.agg #[.int .i64 0, .int .i64 0, .int .i64 0], .int .i64 0, .int .u8 0] rfl (by kernel_rfl) (by kernel_rfl) (by kernel_rfl)
      (OpenSpec.preRow_of_cond 8 hx (by kernel_rfl) (fun k hk => by cases hk) (by kernel_rfl) (laid_met os))) ?_
  intro W base args ds gs before hval hW _ hcond hsz hL _ _
  exact contract H enc W base args ds gs before hval hW hsz

theorem said : Rows.PathFailsSaid :=
  OpenClaim.holds_of_cond 4 Try.f4 rfl rfl rfl rfl rfl rfl rfl ⟨rfl, rfl, rfl, rfl, rfl⟩ rfl rfl rfl rfl rfl (by kernel_rfl) Try.func4 (by kernel_rfl)
    (of_decide_eq_true (by kernel_rfl)) (by unfold Func.isWrapper; first | (rw [if_pos (by decide +kernel)]; kernel_rfl) | (rw [if_neg (by decide +kernel)]; exact ⟨rfl, rfl⟩))
    (fun os started H enc _ F => by rw [OpenClaim.pre_eq_preRow]; exact lifted os started H enc F)

/-- THE STATEMENT -/
theorem proved : Rows.PathFailsSaid := said
#print axioms proved
end Go.Proofs.Ytfofcaedblhegaa.pathFails
