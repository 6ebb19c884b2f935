/-
  What PathRuns says of every run of acts is true: a path answers as the document's, whatever befalls it (P11.1 to P11.5). Conditions: none.
-/
import Derived.Test.YtfofcaedblhegaaRows
import Derived.WalkKit
import Derived.ProofKit
import Derived.OpenShut
import Derived.ShutString
import Derived.ChangeOld
import Derived.Below
import Derived.SizedLaws
import Derived.Deep.DeepHandedRow
import Derived.LaidLaws
import Derived.ChangeMaps5
import Derived.Test.YtfofcaedblhegaaPaG
import Derived.Test.YtfofcaedblhegaaAg
namespace Go.Proofs.Ytfofcaedblhegaa.pathRuns
open Go.ChangeShapes Go.WideShapes Go.ChangeAt Go.RowKit
open Go.ChangeMaps (open_string shut_string)
set_option linter.unusedVariables false

theorem own : ownKnob Try.prog.godebug = none := by kernel_rfl
theorem laidOut : laidOutB Try.prog = true := by kernel_rfl

theorem kd23 : Ag.Kind Try.prog 23 3 (fun q : Int × Int × Int => [.int .i64 q.1, .int .i64 q.2.1, .int .i64 q.2.2]) (fun q => (Lit.int .i64 q.1).wf = true ∧ (Lit.int .i64 q.2.1).wf = true ∧ (Lit.int .i64 q.2.2).wf = true) := by
  refine ⟨by kernel_rfl, by decide, fun _ => rfl, fun {H enc W base held fuel cl x} h _ => ?_⟩
  obtain ⟨xs, n, _, _, hcl, hxl, hfield⟩ := DataW.trod_struct Try.underlying23 h
  rw [show Try.prog.cellsOf 23 = 3 by kernel_rfl] at hcl
  match cl, hcl with
  | [v0, v1, v2], _ =>
    match xs, hxl with
    | [y0, y1, y2], _ =>
      have g0 := hfield 0 _ rfl
      simp [show Try.prog.cellsOf 3 = 1 by kernel_rfl] at g0
      obtain ⟨n0, e0, _, w0⟩ := DataW.trod_int Try.underlying3 g0
      simp at e0
      subst e0
      have g1 := hfield 1 _ rfl
      simp [show Try.prog.cellsOf 3 = 1 by kernel_rfl] at g1
      obtain ⟨n1, e1, _, w1⟩ := DataW.trod_int Try.underlying3 g1
      simp at e1
      subst e1
      have g2 := hfield 2 _ rfl
      simp [show Try.prog.cellsOf 3 = 1 by kernel_rfl] at g2
      obtain ⟨n2, e2, _, w2⟩ := DataW.trod_int Try.underlying3 g2
      simp at e2
      subst e2
      exact ⟨(n0, n1, n2), rfl, w0, w1, w2⟩
theorem kd36 : Ag.Kind Try.prog 36 3 (fun q : Int × Int × Int => [.int .i64 q.1, .int .i64 q.2.1, .int .u32 q.2.2]) (fun q => (Lit.int .i64 q.1).wf = true ∧ (Lit.int .i64 q.2.1).wf = true ∧ (Lit.int .u32 q.2.2).wf = true) := by
  refine ⟨by kernel_rfl, by decide, fun _ => rfl, fun {H enc W base held fuel cl x} h _ => ?_⟩
  obtain ⟨xs, n, _, _, hcl, hxl, hfield⟩ := DataW.trod_struct Try.underlying36 h
  rw [show Try.prog.cellsOf 36 = 3 by kernel_rfl] at hcl
  match cl, hcl with
  | [v0, v1, v2], _ =>
    match xs, hxl with
    | [y0, y1, y2], _ =>
      have g0 := hfield 0 _ rfl
      simp [show Try.prog.cellsOf 3 = 1 by kernel_rfl] at g0
      obtain ⟨n0, e0, _, w0⟩ := DataW.trod_int Try.underlying3 g0
      simp at e0
      subst e0
      have g1 := hfield 1 _ rfl
      simp [show Try.prog.cellsOf 3 = 1 by kernel_rfl] at g1
      obtain ⟨n1, e1, _, w1⟩ := DataW.trod_int Try.underlying3 g1
      simp at e1
      subst e1
      have g2 := hfield 2 _ rfl
      simp [show Try.prog.cellsOf 34 = 1 by kernel_rfl] at g2
      obtain ⟨n2, e2, _, w2⟩ := DataW.trod_int Try.underlying34 g2
      simp at e2
      subst e2
      exact ⟨(n0, n1, n2), rfl, w0, w1, w2⟩
open Ba (hidden Has)
open Ow (Own)
open Pa
set_option maxHeartbeats 4000000 in
set_option maxRecDepth 20000 in

theorem walk (q0 : Int × Int × Int) (a1 : Int) (a2 : Option Addr) (len2 cap2 : Nat) (z2 : List (Int × Int × Int)) (w : World) (w0 : (fun q => (Lit.int .i64 q.1).wf = true ∧ (Lit.int .i64 q.2.1).wf = true ∧ (Lit.int .i64 q.2.2).wf = true) q0) (w1 : (Lit.int .i64 a1).wf = true) (w2 : Ag.Rows (fun q : Int × Int × Int => [.int .i64 q.1, .int .i64 q.2.1, .int .u32 q.2.2]) (fun q => (Lit.int .i64 q.1).wf = true ∧ (Lit.int .i64 q.2.1).wf = true ∧ (Lit.int .u32 q.2.2).wf = true) 3 w a2 len2 z2) (s2 : len2 ≤ cap2 ∧ cap2 * Try.prog.bytesOf 36 ≤ 140737488351232 ∧ (a2 = none → len2 = 0 ∧ cap2 = 0)) :
    Calls Try.prog 3 #[.agg ((fun q : Int × Int × Int => [.int .i64 q.1, .int .i64 q.2.1, .int .i64 q.2.2]) q0).toArray, .int .i64 a1, .slice a2 len2 cap2] w fun e w' => e = .returned (.bool true) ∧ Below w.heap.size w w' := by
  obtain ⟨mx, fl, pa⟩ := q0
  have AW := hidden Pa.alive
  have O := hidden (arg3 w mx fl pa)
  have HZ := hidden w2
  have hlen : len2 ≤ 140737488355328 := w2.2.2.1
  clear w0 w1 w2 s2
  cases hc : (okC mx fl pa && tok a1) with
  | false =>
    have NO : Hid (∀ W, Calls Try.prog 7 #[.agg #[.int .i64 mx, .int .i64 fl, .int .i64 pa], .int .i64 a1] W fun e w' => e = .returned (.tuple #[.pointer none, .int .i64 (newE mx fl pa a1)]) ∧ Below W.heap.size W w') := fun W => new_no hc
    have RN : Hid (∀ W, Calls Try.prog 8 #[.agg #[.int .i64 mx, .int .i64 fl, .int .i64 pa], .int .i64 a1] W fun e w' => e = .returned (.tuple #[.pointer none, .int .i64 (newE mx fl pa a1)]) ∧ Below W.heap.size W w') := fun W => rnew_no hc
    generalize newE mx fl pa a1 = x at NO RN
    clear hc HZ
    go_enter Try.func3, Try.ntmps3
    go_wp2_with fail
    refine Calls.mono (NO.out _) ?_
    rintro e w1 ⟨rfl, hB⟩
    have O1 := hidden (O.out.later hB)
    obtain ⟨⟨c0, c1, c2⟩, hl⟩ := arg3C O1.out
    clear hB O
    go_wp2_with fail
    refine Calls.mono (RN.out _) ?_
    rintro e w2 ⟨rfl, hB⟩
    have O2 := hidden (O1.out.later hB)
    clear hB O1 c0 c1 c2
    go_wp2_with fail
    refine Calls.mono (AW.out _) ?_
    rintro e w3 ⟨rfl, hB⟩
    have O3 := hidden (O2.out.later hB).below
    clear hB O2
    go_wp2
    go_ret
    exact ⟨rfl, O3.out⟩
  | true =>
    have hc1 : okC mx fl pa = true := by revert hc; cases okC mx fl pa <;> simp
    have hc2 : tok a1 = true := by revert hc; cases tok a1 <;> simp
    have NO : Hid (∀ W, Calls Try.prog 7 #[.agg #[.int .i64 mx, .int .i64 fl, .int .i64 pa], .int .i64 a1] W fun e w' => Made W (newS mx fl pa a1) e w') := fun W => new_ok hc1 hc2
    have RN : Hid (∀ W, Calls Try.prog 8 #[.agg #[.int .i64 mx, .int .i64 fl, .int .i64 pa], .int .i64 a1] W fun e w' => RMade W (newS mx fl pa a1) e w') := fun W => rnew_ok hc1 hc2
    have HI := hidden (newI hc1 hc2)
    have HR : Hid (nrm (newS mx fl pa a1) = newS mx fl pa a1) := nrm_new mx fl pa a1
    generalize newS mx fl pa a1 = s0 at NO RN HI HR
    clear hc hc1 hc2
    have AC : Hid (∀ (W : World) (b c : Nat) (s : S) (kd n m : Int), Hid (Own w W (L2 b c (nrm s) s)) → Hid (Inv s) → Calls Try.prog 10 #[.pointer (some ⟨b, 0, none⟩), .pointer (some ⟨c, 0, none⟩), .agg #[.int .i64 kd, .int .i64 n, .int .u32 m]] W fun e w' => ∃ s', e = .returned (.bool true) ∧ Hid (Inv s') ∧ Hid (Own w w' (L2 b c (nrm s') s'))) := fun W b c s kd n m h hI => (act h hI kd n m).mono (by rintro e w' ⟨rfl, h1⟩; exact ⟨_, rfl, Inv.act hI kd n m, h1⟩)
    have SA : Hid (∀ (W : World) (b c : Nat) (s : S), Hid (Own w W (L2 b c (nrm s) s)) → Hid (Inv s) → Calls Try.prog 11 #[.pointer (some ⟨b, 0, none⟩), .pointer (some ⟨c, 0, none⟩)] W fun e w' => e = .returned (.bool true) ∧ Hid (Own w w' (L2 b c (nrm s) s))) := fun W b c s h hI => same h hI
    go_enter Try.func3, Try.ntmps3
    go_wp2_with fail
    refine Calls.mono (NO.out _) ?_
    rintro e w1 ⟨b, rfl, hM⟩
    have HM := hidden hM
    have hB := hidden hM.below
    obtain ⟨⟨c0, c1, c2⟩, hl⟩ := arg3C (O.out.later hM.below)
    clear hM NO
    go_wp2_with fail
    refine Calls.mono (RN.out _) ?_
    rintro e w2 ⟨c, rfl, hM⟩
    have O2 : Hid (Own w w2 (L2 b c (nrm s0) s0)) := HR.out.symm ▸ both O.out HM.out hM
    clear hM O HM hB c0 c1 c2 RN HR
    go_wp2_with fail
    go_loopw [11] (fun i wr => ∃ (q : Int) (s : S), 0 ≤ q ∧ q ≤ (len2 : Int) ∧ i = .int .i64 q ∧ Hid (Inv s) ∧ Hid (Own w wr (L2 b c (nrm s) s))) (fun i _ => len2 - (intOf i).toNat)
    case atStart => exact ⟨0, s0, by omega, by omega, rfl, HI, O2⟩
    case round =>
      obtain ⟨q, s, j1, j2, rfl, HS, HO⟩ := hrel
      by_cases hq : q < (len2 : Int) ∧ q < 1000
      · obtain ⟨hq1, hq2⟩ := hq
        obtain ⟨h1, h2, h3, h4⟩ := HZ.out.later HO.out.below
        obtain ⟨z, hz⟩ : ∃ z, z2[q.toNat]? = some z := ⟨_, List.getElem?_eq_getElem (by omega)⟩
        rcases h4 with h4 | ⟨g, off, rfl, hg, hcell⟩
        · omega
        have c0 : wr.cell? ⟨g, off + q.toNat * 3, none⟩ = some (.int .i64 z.1) := hcell _ _ hz 0 _ rfl
        have c1 : wr.cell? ⟨g, off + q.toNat * 3 + 1, none⟩ = some (.int .i64 z.2.1) := hcell _ _ hz 1 _ rfl
        have c2 : wr.cell? ⟨g, off + q.toNat * 3 + 2, none⟩ = some (.int .u32 z.2.2) := hcell _ _ hz 2 _ rfl
        clear h1 h2 h3 hcell hz
        go_wp2_with fail
        refine Calls.mono (AC.out _ _ _ _ _ _ _ HO HS) ?_
        rintro e w3 ⟨s', rfl, HS', HO'⟩
        clear c0 c1 c2 HO HS
        go_wp2_with fail
        refine Calls.mono (SA.out _ _ _ _ HO' HS') ?_
        rintro e w4 ⟨rfl, HO2⟩
        clear HO'
        go_wp2
        go_roundw
        case rel => exact ⟨_, s', by omega, by omega, rfl, HS', HO2⟩
        case measure => simp [intOf]; omega
      · by_cases hq1 : q < (len2 : Int)
        · have hq2 : 1000 ≤ q := by omega
          clear hq
          go_wp2_with fail
          refine Calls.mono (SA.out _ _ _ _ HO HS) ?_
          rintro e w4 ⟨rfl, HO2⟩
          clear HO
          go_wp2_with fail
          refine Calls.mono (AW.out _) ?_
          rintro e w5 ⟨rfl, hB⟩
          have O5 := hidden (HO2.out.later hB).below
          clear hB HO2
          go_wp2
          go_ret
          exact ⟨rfl, O5.out⟩
        · have hq2 : (len2 : Int) ≤ q := by omega
          clear hq hq1
          go_wp2_with fail
          refine Calls.mono (SA.out _ _ _ _ HO HS) ?_
          rintro e w4 ⟨rfl, HO2⟩
          clear HO
          go_wp2_with fail
          refine Calls.mono (AW.out _) ?_
          rintro e w5 ⟨rfl, hB⟩
          have O5 := hidden (HO2.out.later hB).below
          clear hB HO2
          go_wp2
          go_ret
          exact ⟨rfl, O5.out⟩

theorem contract (H : Type) (enc : TypeId × Value → H) (W : World) (base : Nat) (args : Array Value) (ds gs : List (DataW H)) (before : List MemPlace)
    (hval : ∀ (j : Nat) t v, Try.f3.params[j]? = some t → args[j]? = some v → Value.okWide Try.prog W .any base t v)
    (hW : DataW.Whole enc Try.prog Try.f3.params.toList Rows.pathRunsSpec.vars false W args.toList ds gs before)
    (hsz0 : (DataW.weightsEach Try.prog (Try.f3.params.toList ++ Rows.pathRunsSpec.plain.varTypes Try.prog) (ds ++ gs)).all (· ≤ reachBytes) = true) :
    Calls Try.prog 3 args W fun e W' => ∃ v, e = .returned v ∧ Rows.pathRunsSpec.post enc Try.prog Try.f3 false true false false W args v W' := by
  have hW' := hW
  obtain ⟨p, q, hA0, hV, rfl, hfz, hnd⟩ := hW
  have hA : DataW.TrodAll enc Try.prog W 0 (fun _ => true) true Try.f3.params.toList args.toList ds p := hA0
  have hsz := hsz0
  rw [Try.params3] at hA hval hsz
  obtain ⟨v0, vs0, d0, ds0, p0, q0, hargs, rfl, rfl, h0, r0⟩ := trodAll_cons hA
  obtain ⟨v1, vs1, d1, ds1, p1, q1, rfl, rfl, rfl, h1, r1⟩ := trodAll_cons r0
  obtain ⟨v2, vs2, d2, ds2, p2, q2, rfl, rfl, rfl, h2, r2⟩ := trodAll_cons r1
  obtain ⟨rfl, rfl, rfl⟩ := trodAll_nil r2
  obtain rfl : args = #[v0, v1, v2] := by cases args; simp_all
  obtain ⟨rfl, rfl⟩ := trodVars_none hV
  have k0 := h0
  have lt0 : ∀ x ∈ p0, x.block < W.heap.size := by obtain ⟨m, hm⟩ := k0; exact DataW.trod_lt m _ _ _ hm
  have sz0 : (d0.weights Try.prog 23).all (· ≤ reachBytes) = true := List.all_eq_true.2 fun m hm => List.all_eq_true.1 hsz m (DataW.weights_mem_each (j := 0) rfl rfl m hm)
  obtain ⟨q0, rfl, w0⟩ : ∃ q, v0 = .agg ((fun q : Int × Int × Int => [.int .i64 q.1, .int .i64 q.2.1, .int .i64 q.2.2]) q).toArray ∧ (fun q => (Lit.int .i64 q.1).wf = true ∧ (Lit.int .i64 q.2.1).wf = true ∧ (Lit.int .i64 q.2.2).wf = true) q := by
    obtain ⟨fuel, hf⟩ := h0
    exact Ag.one_arg kd23 Try.underlying23 (hval 0 23 v0 rfl rfl) hf sz0
  obtain ⟨a1, rfl, rfl, rfl, w1⟩ := open_int Try.underlying3 (hval 1 3 v1 rfl rfl) h1
  obtain ⟨a2, len2, cap2, rfl⟩ := okWide_slice Try.underlying24 (hval 2 24 v2 rfl rfl)
  have k2 := h2
  have lt2 : ∀ x ∈ p2, x.block < W.heap.size := by obtain ⟨m, hm⟩ := k2; exact DataW.trod_lt m _ _ _ hm
  have sz2 : (d2.weights Try.prog 24).all (· ≤ reachBytes) = true := List.all_eq_true.2 fun m hm => List.all_eq_true.1 hsz m (DataW.weights_mem_each (j := 2) rfl rfl m hm)
  obtain ⟨z2, w2, s2⟩ : ∃ zs, Ag.Rows (fun q : Int × Int × Int => [.int .i64 q.1, .int .i64 q.2.1, .int .u32 q.2.2]) (fun q => (Lit.int .i64 q.1).wf = true ∧ (Lit.int .i64 q.2.1).wf = true ∧ (Lit.int .u32 q.2.2).wf = true) 3 W a2 len2 zs ∧ len2 ≤ cap2 ∧ cap2 * Try.prog.bytesOf 36 ≤ 140737488351232 ∧ (a2 = none → len2 = 0 ∧ cap2 = 0) := by
    obtain ⟨fuel, hf⟩ := h2
    exact Ag.rows_arg kd36 Try.underlying24 (Nat.le_of_ble_eq_true (by kernel_rfl)) hf sz2
  clear hA0 hsz0 hsz
  refine (walk q0 a1 a2 len2 cap2 z2 W w0 w1 w2 s2).mono fun e W' ⟨he, bel⟩ => ?_
  subst he
  exact ⟨_, rfl, _, _, _, [], _, [], hW', trodAll_mk1 (shut_bool Try.underlying4 _), (trodAll_cons_mk (Below.trod laidOut (by kernel_rfl) (of_decide_eq_true (by kernel_rfl)) k0 bel lt0) (trodAll_cons_mk (shut_int Try.underlying3 w1) (trodAll_cons_mk (Below.trod laidOut (by kernel_rfl) (of_decide_eq_true (by kernel_rfl)) k2 bel lt2) trodAll_mk0))), rfl, bel.frame _, fun h => by cases h⟩

noncomputable def laidWorld (os : Os) : World :=
  World.holding Try.prog os ⟨#[], #[], []⟩
theorem laid_met (os : Os) : laidMet Try.prog Rows.pathRunsRow.laid ((laidWorld os).forCall (fun _ _ => 0) ⟨#[], #[.agg #[.int .i64 0, .int .i64 0, .int .i64 0], .int .i64 0, .slice none 0 0], []⟩).memory :=
  laidMet_of_run' 8 (by kernel_rfl) (by kernel_rfl)
theorem reads (os : Os) {H : Type} (enc : TypeId × Value → H) : ∃ places, DataW.whole enc Try.prog ((laidWorld os).forCall (fun _ _ => 0) ⟨#[], #[.agg #[.int .i64 0, .int .i64 0, .int .i64 0], .int .i64 0, .slice none 0 0], []⟩).memory Try.f3.params.toList Rows.pathRunsSpec.vars false #[Value.agg #[.int .i64 0, .int .i64 0, .int .i64 0], Value.int .i64 0, Value.slice none 0 0].toList 8 = some ([.agg [.lit (.int .i64 0), .lit (.int .i64 0), .lit (.int .i64 0)], .lit (.int .i64 0), .nil], [], places) :=
  ⟨[], by kernel_rfl⟩

set_option maxRecDepth 100000 in
theorem lifted (os : Os) (started : os.Started) (H : Type) (enc : TypeId × Value → H) (F : Stop.Interp) :
    ReturnsInHanded {} Try.checked os 3 .any ((OpenSpec.ofChange Rows.pathRunsSpec).preRow enc Try.prog Try.f3 Rows.pathRunsRow.domain false Rows.pathRunsRow.laid) (((OpenSpec.ofChange Rows.pathRunsSpec).at F).post enc Try.prog Try.f3 false true false false) := by
  obtain ⟨places, hx⟩ := reads os enc
  refine returnsInHanded_of_row (C := Try.checked) (s := OpenSpec.ofChange Rows.pathRunsSpec) own started (by kernel_rfl) Try.func3
    (witness_row_at (enc := enc) (C := Try.checked) false (laidWorld os) #[.agg #[.int .i64 0, .int .i64 0, .int .i64 0], .int .i64 0, .slice none 0 0] rfl (by kernel_rfl) (by kernel_rfl) (by kernel_rfl)
      (OpenSpec.preRow_of_cond 8 hx (by kernel_rfl) (fun k hk => by cases hk) (by kernel_rfl) (laid_met os))) ?_
  intro W base args ds gs before hval hW _ hcond hsz hL _ _
  exact contract H enc W base args ds gs before hval hW hsz

theorem said : Rows.PathRunsSaid :=
  OpenClaim.holds_of_cond 3 Try.f3 rfl rfl rfl rfl rfl rfl rfl ⟨rfl, rfl, rfl, rfl, rfl⟩ rfl rfl rfl rfl rfl (by kernel_rfl) Try.func3 (by kernel_rfl)
    (of_decide_eq_true (by kernel_rfl)) (by unfold Func.isWrapper; first | (rw [if_pos (by decide +kernel)]; kernel_rfl) | (rw [if_neg (by decide +kernel)]; exact ⟨rfl, rfl⟩))
    (fun os started H enc _ F => by rw [OpenClaim.pre_eq_preRow]; exact lifted os started H enc F)

/-- THE STATEMENT -/
theorem proved : Rows.PathRunsSaid := said
#print axioms proved
end Go.Proofs.Ytfofcaedblhegaa.pathRuns
