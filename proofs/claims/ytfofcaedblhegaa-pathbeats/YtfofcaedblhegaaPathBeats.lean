/-
  What PathBeats says of every call is true: one heartbeat is open at a time, and its answer tells how long it took (P11.4, P11.5, P11.7). Conditions: none.
-/
import Derived.Test.YtfofcaedblhegaaRows
import Derived.WalkKit
import Derived.ProofKit
import Derived.OpenShut
import Derived.ShutString
import Derived.ChangeOld
import Derived.Below
import Derived.SizedLaws
import Derived.Deep.DeepHandedRow
import Derived.LaidLaws
import Derived.ChangeMaps5
import Derived.Test.YtfofcaedblhegaaPaF
import Derived.Test.YtfofcaedblhegaaAg
namespace Go.Proofs.Ytfofcaedblhegaa.pathBeats
open Go.ChangeShapes Go.WideShapes Go.ChangeAt Go.RowKit
open Go.ChangeMaps (open_string shut_string)
set_option linter.unusedVariables false

theorem own : ownKnob Try.prog.godebug = none := by kernel_rfl
theorem laidOut : laidOutB Try.prog = true := by kernel_rfl

theorem kd23 : Ag.Kind Try.prog 23 3 (fun q : Int × Int × Int => [.int .i64 q.1, .int .i64 q.2.1, .int .i64 q.2.2]) (fun q => (Lit.int .i64 q.1).wf = true ∧ (Lit.int .i64 q.2.1).wf = true ∧ (Lit.int .i64 q.2.2).wf = true) := by
  refine ⟨by kernel_rfl, by decide, fun _ => rfl, fun {H enc W base held fuel cl x} h _ => ?_⟩
  obtain ⟨xs, n, _, _, hcl, hxl, hfield⟩ := DataW.trod_struct Try.underlying23 h
  rw [show Try.prog.cellsOf 23 = 3 by kernel_rfl] at hcl
  match cl, hcl with
  | [v0, v1, v2], _ =>
    match xs, hxl with
    | [y0, y1, y2], _ =>
      have g0 := hfield 0 _ rfl
      simp [show Try.prog.cellsOf 3 = 1 by kernel_rfl] at g0
      obtain ⟨n0, e0, _, w0⟩ := DataW.trod_int Try.underlying3 g0
      simp at e0
      subst e0
      have g1 := hfield 1 _ rfl
      simp [show Try.prog.cellsOf 3 = 1 by kernel_rfl] at g1
      obtain ⟨n1, e1, _, w1⟩ := DataW.trod_int Try.underlying3 g1
      simp at e1
      subst e1
      have g2 := hfield 2 _ rfl
      simp [show Try.prog.cellsOf 3 = 1 by kernel_rfl] at g2
      obtain ⟨n2, e2, _, w2⟩ := DataW.trod_int Try.underlying3 g2
      simp at e2
      subst e2
      exact ⟨(n0, n1, n2), rfl, w0, w1, w2⟩
open Ba (hidden Has)
open Ow (Own)
open Pa
set_option maxHeartbeats 4000000 in
set_option maxRecDepth 20000 in

theorem walk (q0 : Int × Int × Int) (a1 : Int) (a2 : Int) (a3 : Int) (w : World) (w0 : (fun q => (Lit.int .i64 q.1).wf = true ∧ (Lit.int .i64 q.2.1).wf = true ∧ (Lit.int .i64 q.2.2).wf = true) q0) (w1 : (Lit.int .i64 a1).wf = true) (w2 : (Lit.int .u16 a2).wf = true) (w3 : (Lit.int .u8 a3).wf = true) :
    Calls Try.prog 5 #[.agg ((fun q : Int × Int × Int => [.int .i64 q.1, .int .i64 q.2.1, .int .i64 q.2.2]) q0).toArray, .int .i64 a1, .int .u16 a2, .int .u8 a3] w fun e w' => e = .returned (.bool true) ∧ Below w.heap.size w w' := by
  obtain ⟨mx, fl, pa⟩ := q0
  have hl0 : 0 ≤ a2 ∧ a2 ≤ 65535 := by
    simp [Lit.wf, IntKind.min, IntKind.max, IntKind.signed, IntKind.bits] at w2
    omega
  have hr0 : 0 ≤ a3 ∧ a3 ≤ 255 := by
    simp [Lit.wf, IntKind.min, IntKind.max, IntKind.signed, IntKind.bits] at w3
    omega
  obtain ⟨l1, l2⟩ := hl0
  obtain ⟨r1, r2⟩ := hr0
  have AW := hidden Pa.alive
  have O := hidden (arg3 w mx fl pa)
  clear w0 w1 w2 w3
  cases hc : (okC mx fl pa && tok a1) with
  | false =>
    have NO : Hid (∀ W, Calls Try.prog 7 #[.agg #[.int .i64 mx, .int .i64 fl, .int .i64 pa], .int .i64 a1] W fun e w' => e = .returned (.tuple #[.pointer none, .int .i64 (newE mx fl pa a1)]) ∧ Below W.heap.size W w') := fun W => new_no hc
    have he := newE_no hc
    have he2 : (newE mx fl pa a1 == 0) = false := beq_eq_false_iff_ne.2 he
    have he3 : (newE mx fl pa a1 != 0) = true := bne_iff_ne.2 he
    generalize newE mx fl pa a1 = x at NO he he2 he3
    clear hc
    go_enter Try.func5, Try.ntmps5
    go_wp2_with fail
    refine Calls.mono (NO.out _) ?_
    rintro e w1 ⟨rfl, hB⟩
    have O1 := hidden (O.out.later hB)
    clear hB O
    go_wp2_with fail
    refine Calls.mono (AW.out _) ?_
    rintro e w2 ⟨rfl, hB⟩
    have O2 := hidden (O1.out.later hB).below
    clear hB O1
    go_wp2
    go_ret
    exact ⟨rfl, O2.out⟩
  | true =>
    have hc1 : okC mx fl pa = true := by revert hc; cases okC mx fl pa <;> simp
    have hc2 : tok a1 = true := by revert hc; cases tok a1 <;> simp
    obtain ⟨t1, t2⟩ := of_decide_eq_true hc2
    have NO : Hid (∀ W, Calls Try.prog 7 #[.agg #[.int .i64 mx, .int .i64 fl, .int .i64 pa], .int .i64 a1] W fun e w' => Made W (newS mx fl pa a1) e w') := fun W => new_ok hc1 hc2
    have HS : Hid (Sh (newS mx fl pa a1) 0) := ⟨newI hc1 hc2, rfl, rfl⟩
    generalize newS mx fl pa a1 = s0 at NO HS
    clear hc hc1 hc2
    have B0 : Hid (∀ (W : World) (b : Nat) (s : S) (q t : Int), Cd W b s → Hid (Sh s q) → (0 ≤ q ∧ q ≤ 300) → (0 ≤ t ∧ t ≤ 1099511627776) → Calls Try.prog 16 #[.pointer (some ⟨b, 0, none⟩), .int .i64 t] W fun e w' => ∃ s', e = .returned (.tuple #[.int .u32 (q + 1), .int .i64 0]) ∧ Cd w' b s' ∧ Op1 s' (q + 1) t ∧ Ba.Only [b] W w') := fun W b s q t h hS h1 h2 => beat0 h hS h1 h2
    have B1 : Hid (∀ (W : World) (b : Nat) (s : S) (q t : Int), Cd W b s → Hid (Op1 s q t) → (0 ≤ t ∧ t ≤ 1099511627776) → Calls Try.prog 16 #[.pointer (some ⟨b, 0, none⟩), .int .i64 t] W fun e w' => e = .returned (.tuple #[.int .u32 0, .int .i64 111]) ∧ Cd w' b s ∧ Ba.Only [b] W w') := fun W b s q t h hS h2 => beat1 h hS h2
    have H1 : Hid (∀ (W : World) (b : Nat) (s : S) (q t m n : Int), Cd W b s → Hid (Op1 s q t) → ¬ q = m → (0 ≤ n ∧ n ≤ 1099511627776) → Calls Try.prog 17 #[.pointer (some ⟨b, 0, none⟩), .int .u32 m, .int .i64 n] W fun e w' => e = .returned (.tuple #[.int .i64 0, .bool false, .int .i64 111]) ∧ Cd w' b s ∧ Ba.Only [b] W w') := fun W b s q t m n h hS hm hn => heard1no h hS hm hn
    have H2 : Hid (∀ (W : World) (b : Nat) (s : S) (q t n : Int), Cd W b s → Hid (Op1 s q t) → t ≤ n → (0 ≤ n ∧ n ≤ 1099511627776) → Calls Try.prog 17 #[.pointer (some ⟨b, 0, none⟩), .int .u32 q, .int .i64 n] W fun e w' => ∃ s' x, e = .returned (.tuple #[.int .i64 (n - t), .bool x, .int .i64 0]) ∧ Cd w' b s' ∧ Sh s' q ∧ Ba.Only [b] W w') := fun W b s q t n h hS hn ht => heard1 h hS hn ht
    have H3 : Hid (∀ (W : World) (b : Nat) (s : S) (q m n : Int), Cd W b s → Hid (Sh s q) → (0 ≤ n ∧ n ≤ 1099511627776) → Calls Try.prog 17 #[.pointer (some ⟨b, 0, none⟩), .int .u32 m, .int .i64 n] W fun e w' => e = .returned (.tuple #[.int .i64 0, .bool false, .int .i64 111]) ∧ Cd w' b s ∧ Ba.Only [b] W w') := fun W b s q m n h hS hn => heard0 h hS hn
    go_enter Try.func5, Try.ntmps5
    go_wp2_with fail
    refine Calls.mono (NO.out _) ?_
    rintro e w1 ⟨b, rfl, hM⟩
    have O1 : Hid (Own w w1 (LC w b s0 mx fl pa)) := own_join O.out hM
    clear hM O NO
    go_wp2_with fail
    go_loopw [11, 12] (fun u i wr => ∃ (q t : Int) (s : S), 0 ≤ q ∧ q ≤ a3 + 1 ∧ 0 ≤ t ∧ t ≤ 1099511627776 ∧ i = .int .i64 q ∧ u = .int .i64 t ∧ Hid (Sh s q) ∧ Hid (Own w wr (LC w b s mx fl pa))) (fun _ i _ => (a3 + 1).toNat - (intOf i).toNat)
    case atStart => exact ⟨0, a1, s0, by omega, by omega, t1, t2, rfl, rfl, HS.out, O1.out⟩
    case round =>
      obtain ⟨q, t, s, j1, j2, t3, t4, rfl, rfl, HQ, HO⟩ := hrel
      by_cases hq : q ≤ a3
      · go_wp2_with fail
        refine Calls.mono (B0.out _ _ _ _ _ (lc_has HO.out) HQ (by omega) ⟨t3, t4⟩) ?_
        rintro e w2 ⟨s1, rfl, h1, h3, h2⟩
        have O2 := hidden (lc_turn HO.out h1 h2)
        have Q1 := hidden h3
        clear h1 h2 h3 HO HQ
        go_wp2_with fail
        refine Calls.mono (B1.out _ _ _ _ _ (lc_has O2.out) Q1 ⟨t3, t4⟩) ?_
        rintro e w3 ⟨rfl, h1, h2⟩
        have O3 := hidden (lc_turn O2.out h1 h2)
        clear h1 h2 O2
        have hw1 : IntKind.u32.wrap (q + 1) = q + 1 := by rw [IntKind.wrap_u32]; omega
        by_cases hend : 1099511627776 - a2 < t
        · go_wp2_with fail
          refine Calls.mono (AW.out _) ?_
          rintro e w5 ⟨rfl, hB⟩
          have O5 := hidden (O3.out.later hB).below
          clear hB O3
          go_wp2
          go_ret
          exact ⟨rfl, O5.out⟩
        · have hend2 : t ≤ 1099511627776 - a2 := by omega
          clear hend
          have hw2 : IntKind.u32.wrap (q + 1 + 1) = q + 1 + 1 := by rw [IntKind.wrap_u32]; omega
          have hx : t + a2 - t = a2 := by omega
          have HX := hidden hx
          clear hx
          go_wp2_with fail
          refine Calls.mono (H1.out _ _ _ _ _ _ _ (lc_has O3.out) Q1 (by omega) (by omega)) ?_
          rintro e w4 ⟨rfl, h1, h2⟩
          have O4 := hidden (lc_turn O3.out h1 h2)
          clear h1 h2 O3
          go_wp2_with fail
          refine Calls.mono (H2.out _ _ _ _ _ _ (lc_has O4.out) Q1 (by omega) (by omega)) ?_
          rintro e w5 ⟨s2, x, rfl, h1, h3, h2⟩
          rw [HX.out]
          have O5 := hidden (lc_turn O4.out h1 h2)
          have Q2 := hidden h3
          clear h1 h2 h3 O4 Q1
          go_wp2_with fail
          refine Calls.mono (H3.out _ _ _ _ _ _ (lc_has O5.out) Q2 (by omega)) ?_
          rintro e w6 ⟨rfl, h1, h2⟩
          have O6 := hidden (lc_turn O5.out h1 h2)
          clear h1 h2 O5
          go_wp2
          go_roundw
          case rel => exact ⟨_, _, _, by omega, by omega, by omega, by omega, rfl, rfl, Q2.out, O6.out⟩
          case measure => simp [intOf]; omega
      · go_wp2_with fail
        refine Calls.mono (AW.out _) ?_
        rintro e w5 ⟨rfl, hB⟩
        have O5 := hidden (HO.out.later hB).below
        clear hB HO
        go_wp2
        go_ret
        exact ⟨rfl, O5.out⟩

theorem contract (H : Type) (enc : TypeId × Value → H) (W : World) (base : Nat) (args : Array Value) (ds gs : List (DataW H)) (before : List MemPlace)
    (hval : ∀ (j : Nat) t v, Try.f5.params[j]? = some t → args[j]? = some v → Value.okWide Try.prog W .any base t v)
    (hW : DataW.Whole enc Try.prog Try.f5.params.toList Rows.pathBeatsSpec.vars false W args.toList ds gs before)
    (hsz0 : (DataW.weightsEach Try.prog (Try.f5.params.toList ++ Rows.pathBeatsSpec.plain.varTypes Try.prog) (ds ++ gs)).all (· ≤ reachBytes) = true) :
    Calls Try.prog 5 args W fun e W' => ∃ v, e = .returned v ∧ Rows.pathBeatsSpec.post enc Try.prog Try.f5 false true false false W args v W' := by
  have hW' := hW
  obtain ⟨p, q, hA0, hV, rfl, hfz, hnd⟩ := hW
  have hA : DataW.TrodAll enc Try.prog W 0 (fun _ => true) true Try.f5.params.toList args.toList ds p := hA0
  have hsz := hsz0
  rw [Try.params5] at hA hval hsz
  obtain ⟨v0, vs0, d0, ds0, p0, q0, hargs, rfl, rfl, h0, r0⟩ := trodAll_cons hA
  obtain ⟨v1, vs1, d1, ds1, p1, q1, rfl, rfl, rfl, h1, r1⟩ := trodAll_cons r0
  obtain ⟨v2, vs2, d2, ds2, p2, q2, rfl, rfl, rfl, h2, r2⟩ := trodAll_cons r1
  obtain ⟨v3, vs3, d3, ds3, p3, q3, rfl, rfl, rfl, h3, r3⟩ := trodAll_cons r2
  obtain ⟨rfl, rfl, rfl⟩ := trodAll_nil r3
  obtain rfl : args = #[v0, v1, v2, v3] := by cases args; simp_all
  obtain ⟨rfl, rfl⟩ := trodVars_none hV
  have k0 := h0
  have lt0 : ∀ x ∈ p0, x.block < W.heap.size := by obtain ⟨m, hm⟩ := k0; exact DataW.trod_lt m _ _ _ hm
  have sz0 : (d0.weights Try.prog 23).all (· ≤ reachBytes) = true := List.all_eq_true.2 fun m hm => List.all_eq_true.1 hsz m (DataW.weights_mem_each (j := 0) rfl rfl m hm)
  obtain ⟨q0, rfl, w0⟩ : ∃ q, v0 = .agg ((fun q : Int × Int × Int => [.int .i64 q.1, .int .i64 q.2.1, .int .i64 q.2.2]) q).toArray ∧ (fun q => (Lit.int .i64 q.1).wf = true ∧ (Lit.int .i64 q.2.1).wf = true ∧ (Lit.int .i64 q.2.2).wf = true) q := by
    obtain ⟨fuel, hf⟩ := h0
    exact Ag.one_arg kd23 Try.underlying23 (hval 0 23 v0 rfl rfl) hf sz0
  obtain ⟨a1, rfl, rfl, rfl, w1⟩ := open_int Try.underlying3 (hval 1 3 v1 rfl rfl) h1
  obtain ⟨a2, rfl, rfl, rfl, w2⟩ := open_int Try.underlying45 (hval 2 45 v2 rfl rfl) h2
  obtain ⟨a3, rfl, rfl, rfl, w3⟩ := open_int Try.underlying5 (hval 3 5 v3 rfl rfl) h3
  clear hA0 hsz0 hsz
  refine (walk q0 a1 a2 a3 W w0 w1 w2 w3).mono fun e W' ⟨he, bel⟩ => ?_
  subst he
  exact ⟨_, rfl, _, _, _, [], _, [], hW', trodAll_mk1 (shut_bool Try.underlying4 _), (trodAll_cons_mk (Below.trod laidOut (by kernel_rfl) (of_decide_eq_true (by kernel_rfl)) k0 bel lt0) (trodAll_cons_mk (shut_int Try.underlying3 w1) (trodAll_cons_mk (shut_int Try.underlying45 w2) (trodAll_cons_mk (shut_int Try.underlying5 w3) trodAll_mk0)))), rfl, bel.frame _, fun h => by cases h⟩

noncomputable def laidWorld (os : Os) : World :=
  World.holding Try.prog os ⟨#[], #[], []⟩
theorem laid_met (os : Os) : laidMet Try.prog Rows.pathBeatsRow.laid ((laidWorld os).forCall (fun _ _ => 0) ⟨#[], #[.agg #[.int .i64 0, .int .i64 0, .int .i64 0], .int .i64 0, .int .u16 0, .int .u8 0], []⟩).memory :=
  laidMet_of_run' 8 (by kernel_rfl) (by kernel_rfl)
theorem reads (os : Os) {H : Type} (enc : TypeId × Value → H) : ∃ places, DataW.whole enc Try.prog ((laidWorld os).forCall (fun _ _ => 0) ⟨#[], #[.agg #[.int .i64 0, .int .i64 0, .int .i64 0], .int .i64 0, .int .u16 0, .int .u8 0], []⟩).memory Try.f5.params.toList Rows.pathBeatsSpec.vars false #[Value.agg #[.int .i64 0, .int .i64 0, .int .i64 0], Value.int .i64 0, Value.int .u16 0, Value.int .u8 0].toList 8 = some ([.agg [.lit (.int .i64 0), .lit (.int .i64 0), .lit (.int .i64 0)], .lit (.int .i64 0), .lit (.int .u16 0), .lit (.int .u8 0)], [], places) :=
  ⟨[], by kernel_rfl⟩

set_option maxRecDepth 100000 in
theorem lifted (os : Os) (started : os.Started) (H : Type) (enc : TypeId × Value → H) (F : Stop.Interp) :
    ReturnsInHanded {} Try.checked os 5 .any ((OpenSpec.ofChange Rows.pathBeatsSpec).preRow enc Try.prog Try.f5 Rows.pathBeatsRow.domain false Rows.pathBeatsRow.laid) (((OpenSpec.ofChange Rows.pathBeatsSpec).at F).post enc Try.prog Try.f5 false true false false) := by
  obtain ⟨places, hx⟩ := reads os enc
  refine returnsInHanded_of_row (C := Try.checked) (s := OpenSpec.ofChange Rows.pathBeatsSpec) own started (by kernel_rfl) Try.func5
    (witness_row_at (enc := enc) (C := Try.checked) false (laidWorld os) #[.agg #[.int .i64 0, .int .i64 0, .int .i64 0], .int .i64 0, .int .u16 0, .int .u8 0] rfl (by kernel_rfl) (by kernel_rfl) (by kernel_rfl)
      (OpenSpec.preRow_of_cond 8 hx (by kernel_rfl) (fun k hk => by cases hk) (by kernel_rfl) (laid_met os))) ?_
  intro W base args ds gs before hval hW _ hcond hsz hL _ _
  exact contract H enc W base args ds gs before hval hW hsz

theorem said : Rows.PathBeatsSaid :=
  OpenClaim.holds_of_cond 5 Try.f5 rfl rfl rfl rfl rfl rfl rfl ⟨rfl, rfl, rfl, rfl, rfl⟩ rfl rfl rfl rfl rfl (by kernel_rfl) Try.func5 (by kernel_rfl)
    (of_decide_eq_true (by kernel_rfl)) (by unfold Func.isWrapper; first | (rw [if_pos (by decide +kernel)]; kernel_rfl) | (rw [if_neg (by decide +kernel)]; exact ⟨rfl, rfl⟩))
    (fun os started H enc _ F => by rw [OpenClaim.pre_eq_preRow]; exact lifted os started H enc F)

/-- THE STATEMENT -/
theorem proved : Rows.PathBeatsSaid := said
#print axioms proved
end Go.Proofs.Ytfofcaedblhegaa.pathBeats
