/-
  What SchedSeen says of every call is true: views of paths that are not fit play no part in which path is the next one, as long as the class is the same (P18.5). Conditions: none.
-/
import Derived.Test.YtcflcibncbipbaaRows
import Derived.WalkKit
import Derived.ProofKit
import Derived.OpenShut
import Derived.ShutString
import Derived.ChangeOld
import Derived.Below
import Derived.SizedLaws
import Derived.Deep.DeepHandedRow
import Derived.LaidLaws
import Derived.ChangeMaps5
import Derived.Test.YtcflcibncbipbaaScU
import Derived.Test.YtcflcibncbipbaaAg
namespace Go.Proofs.Ytcflcibncbipbaa.schedSeen
open Go.ChangeShapes Go.WideShapes Go.ChangeAt Go.RowKit
open Go.ChangeMaps (open_string shut_string)
set_option linter.unusedVariables false

theorem own : ownKnob Try.prog.godebug = none := by kernel_rfl
theorem laidOut : laidOutB Try.prog = true := by kernel_rfl

theorem kd42 : Ag.Kind Try.prog 42 4 (fun q : Int × Int × Int × Bool => [.int .i64 q.1, .int .i64 q.2.1, .int .i64 q.2.2.1, .bool q.2.2.2]) (fun q => (Lit.int .i64 q.1).wf = true ∧ (Lit.int .i64 q.2.1).wf = true ∧ (Lit.int .i64 q.2.2.1).wf = true) := by
  refine ⟨by kernel_rfl, by decide, fun _ => rfl, fun {H enc W base held fuel cl x} h _ => ?_⟩
  obtain ⟨xs, n, _, _, hcl, hxl, hfield⟩ := DataW.trod_struct Try.underlying42 h
  rw [show Try.prog.cellsOf 42 = 4 by kernel_rfl] at hcl
  match cl, hcl with
  | [v0, v1, v2, v3], _ =>
    match xs, hxl with
    | [y0, y1, y2, y3], _ =>
      have g0 := hfield 0 _ rfl
      simp [show Try.prog.cellsOf 40 = 1 by kernel_rfl] at g0
      obtain ⟨n0, e0, _, w0⟩ := DataW.trod_int Try.underlying40 g0
      simp at e0
      subst e0
      have g1 := hfield 1 _ rfl
      simp [show Try.prog.cellsOf 3 = 1 by kernel_rfl] at g1
      obtain ⟨n1, e1, _, w1⟩ := DataW.trod_int Try.underlying3 g1
      simp at e1
      subst e1
      have g2 := hfield 2 _ rfl
      simp [show Try.prog.cellsOf 3 = 1 by kernel_rfl] at g2
      obtain ⟨n2, e2, _, w2⟩ := DataW.trod_int Try.underlying3 g2
      simp at e2
      subst e2
      have g3 := hfield 3 _ rfl
      simp [show Try.prog.cellsOf 4 = 1 by kernel_rfl] at g3
      obtain ⟨n3, e3, _⟩ := DataW.trod_bool Try.underlying4 g3
      simp at e3
      subst e3
      exact ⟨(n0, n1, n2, n3), rfl, w0, w1, w2⟩
open Ba (hidden Has Only)
open Ow (Own)
open Sc
set_option maxHeartbeats 4000000 in
set_option maxRecDepth 20000 in

theorem walk (a0 : Int) (a1 : Int) (a2 : Option Addr) (len2 cap2 : Nat) (z2 : List (Int × Int × Int × Bool)) (a3 : Int) (a4 : Int) (w : World) (w0 : (Lit.int .i64 a0).wf = true) (w1 : (Lit.int .i64 a1).wf = true) (w2 : Ag.Rows (fun q : Int × Int × Int × Bool => [.int .i64 q.1, .int .i64 q.2.1, .int .i64 q.2.2.1, .bool q.2.2.2]) (fun q => (Lit.int .i64 q.1).wf = true ∧ (Lit.int .i64 q.2.1).wf = true ∧ (Lit.int .i64 q.2.2.1).wf = true) 4 w a2 len2 z2) (s2 : len2 ≤ cap2 ∧ cap2 * Try.prog.bytesOf 42 ≤ 140737488351232 ∧ (a2 = none → len2 = 0 ∧ cap2 = 0)) (w3 : (Lit.int .i64 a3).wf = true) (w4 : (Lit.int .i64 a4).wf = true) :
    Calls Try.prog 7 #[.int .i64 a0, .int .i64 a1, .slice a2 len2 cap2, .int .i64 a3, .int .i64 a4] w fun e w' => e = .returned (.bool true) ∧ Below w.heap.size w w' := by
  have AW := hidden Sc.awake
  have L : Hid (∀ X, Below w.heap.size w X → Calls Try.prog 14 #[.slice a2 len2 cap2] X fun e w' => e = .returned (.int .i64 (chk z2)) ∧ Below X.heap.size X w') := fun X hX => rcheck (w2.later hX)
  have hl : z2.length = len2 := w2.1
  by_cases hc : chk z2 = 0
  · rw [hc] at L
    by_cases t0 : a3 < 0
    · clear w0 w1 w2 w3 w4 s2 hl
      go_enter Try.func7, Try.ntmps7
      go_wp2_with fail
      refine Calls.mono (AW.out _) ?_
      rintro e x1 ⟨rfl, hB⟩
      have HB1 := hidden hB
      clear hB AW
      go_wp2_with fail
      refine Calls.mono (L.out _ HB1.out) ?_
      rintro e x2 ⟨rfl, hB⟩
      have HB2 := hidden (HB1.out.trans (hB.mono HB1.out.size))
      clear hB L
      go_wp2
      go_ret
      exact ⟨by first | rfl | simp, HB2.out⟩
    · by_cases t1 : a3 > 1048576
      · clear w0 w1 w2 w3 w4 s2 hl
        go_enter Try.func7, Try.ntmps7
        go_wp2_with fail
        refine Calls.mono (AW.out _) ?_
        rintro e x1 ⟨rfl, hB⟩
        have HB1 := hidden hB
        clear hB AW
        go_wp2_with fail
        refine Calls.mono (L.out _ HB1.out) ?_
        rintro e x2 ⟨rfl, hB⟩
        have HB2 := hidden (HB1.out.trans (hB.mono HB1.out.size))
        clear hB L
        go_wp2
        go_ret
        exact ⟨by first | rfl | simp, HB2.out⟩
      · by_cases p0 : a4 < 0
        · clear w0 w1 w2 w3 w4 s2 hl
          go_enter Try.func7, Try.ntmps7
          go_wp2_with fail
          refine Calls.mono (AW.out _) ?_
          rintro e x1 ⟨rfl, hB⟩
          have HB1 := hidden hB
          clear hB AW
          go_wp2_with fail
          refine Calls.mono (L.out _ HB1.out) ?_
          rintro e x2 ⟨rfl, hB⟩
          have HB2 := hidden (HB1.out.trans (hB.mono HB1.out.size))
          clear hB L
          go_wp2
          go_ret
          exact ⟨by first | rfl | simp, HB2.out⟩
        · by_cases p1 : a4 > 1073741824
          · clear w0 w1 w2 w3 w4 s2 hl
            go_enter Try.func7, Try.ntmps7
            go_wp2_with fail
            refine Calls.mono (AW.out _) ?_
            rintro e x1 ⟨rfl, hB⟩
            have HB1 := hidden hB
            clear hB AW
            go_wp2_with fail
            refine Calls.mono (L.out _ HB1.out) ?_
            rintro e x2 ⟨rfl, hB⟩
            have HB2 := hidden (HB1.out.trans (hB.mono HB1.out.size))
            clear hB L
            go_wp2
            go_ret
            exact ⟨by first | rfl | simp, HB2.out⟩
          · obtain ⟨h8, hv⟩ := chk_0 hc
            obtain ⟨f1, f2, f3⟩ := fit_wf z2
            have A : Hid (∀ X, Below w.heap.size w X → Calls Try.prog 10 #[.int .i64 a0, .int .i64 a1, .slice a2 len2 cap2] X fun e w' => e = .returned (.tuple #[.int .i64 (nV a0 a1 z2), .bool (nB a0 a1 z2), .int .i64 (oE a0 z2)]) ∧ Below X.heap.size X w') := fun X hX => next (w2.later hX) a0 a1
            have FT : Hid (∀ X, Below w.heap.size w X → Calls Try.prog 18 #[.slice a2 len2 cap2] X fun e w' => ∃ v k, e = .returned v ∧ w'.ownsRow X.heap.size 3 1 v k (lc (rfit z2)) ∧ Below X.heap.size X w') := fun X hX => rfit_ (w2.later hX) (by omega)
            rw [fit_eq hv] at FT
            have SS : Hid (∀ M, Upd z2 (fit z2) a4 a3 z2.length M → oL a0 a1 M = oL a0 a1 z2 ∧ oE a0 M = oE a0 z2) := fun M hM => seen_same hc (by omega) (by omega) hM a0 a1
            have SV : Hid (∀ M, Upd z2 (fit z2) a4 a3 z2.length M → M.length = len2 ∧ ∀ v ∈ M, okv v) := fun M hM => ⟨by rw [hM.1]; exact hl, upd_ok hv (by omega) (by omega) hM⟩
            have hn8 : 0 < len2 ∧ len2 ≤ 8 := by omega
            have FW : Hid ((fit z2).Pairwise (· < ·) ∧ (∀ x ∈ fit z2, 0 ≤ x ∧ x < len2) ∧ (fit z2).length ≤ 8) := ⟨f1, fun x hx => by have := f2 x hx; omega, by omega⟩
            have H := hidden w2
            obtain ⟨b0, off0, rfl, hb0⟩ := Vs.open w2 (by omega)
            have HL := hidden hl
            have tt0 : 0 ≤ a3 := by omega
            have tt1 : a3 ≤ 1048576 := by omega
            have pp0 : 0 ≤ a4 := by omega
            have pp1 : a4 ≤ 1073741824 := by omega
            generalize fit z2 = F at *
            clear w0 w1 w2 w3 w4 s2 hc hl h8 hv f1 f2 f3 t0 t1 p0 p1
            go_enter Try.func7, Try.ntmps7
            go_wp2_with fail
            refine Calls.mono (AW.out _) ?_
            rintro e x1 ⟨rfl, hB⟩
            have HB1 := hidden hB
            clear hB AW
            go_wp2_with fail
            refine Calls.mono (L.out _ HB1.out) ?_
            rintro e x2 ⟨rfl, hB⟩
            have HB2 := hidden (HB1.out.trans (hB.mono HB1.out.size))
            clear hB L
            go_wp2_with fail
            refine Calls.mono (FT.out _ HB2.out) ?_
            rintro e x3 ⟨vf, kf, rfl, hown, hB⟩
            have hlf : F.length = kf := by have := hown.1; rw [lc_len] at this; omega
            obtain ⟨af, cf, e, NF⟩ := Nu.own hown (fun x hx => wf_in (by have := FW.out.2.1 x hx; omega)) (by have := FW.out.2.2; omega)
            subst e
            have NF := hidden NF
            have HLF := hidden hlf
            have hkf : kf ≤ 8 := by have := FW.out.2.2; omega
            have HB3 := hidden (HB2.out.trans (hB.mono HB2.out.size))
            clear hB FT hown hlf
            obtain ⟨mb, mc, x4, hr, hge, hvm, hb4⟩ := copy_views (cap := cap2) (H.out.later HB3.out) hn8
            have HR := hidden hr
            have VM := hidden hvm
            have HF4 := hidden hb4
            have HGE := hidden hge
            clear hr hvm hb4 hge
            go_wp2_with (first | (at_builtin; refine Rg.wpList_app rfl (.tmp 45) (.tmp 46) 22 rfl rfl rfl HR.out ?_; clear HR) | go_in)
            go_loopw [13] (fun i wr => ∃ (q : Nat) (M : List Vw), q ≤ len2 ∧ i = .int .i64 (q : Int) ∧ Hid (Upd z2 F a4 a3 q M) ∧ Hid (Vm wr mb M) ∧ Hid (Below x3.heap.size x3 wr)) (fun i _ => len2 - (intOf i).toNat)
            case atStart => exact ⟨0, z2, by omega, rfl, Upd.first _ _ _ _, VM.out, HF4.out⟩
            case round =>
              clear VM HF4
              obtain ⟨q, M, j2, rfl, HU, VM, HBR⟩ := hrel
              by_cases hq : q < len2
              · have hqz : (q : Int) < (len2 : Int) := by omega
                go_wp2_with fail
                go_loopw [14, 15] (fun is k wr2 => ∃ t : Nat, t ≤ kf ∧ k = .int .i64 (t : Int) ∧ is = .bool ((F.take t).any (fun x => x == (q : Int))) ∧ wr = wr2) (fun _ k _ => kf - (intOf k).toNat)
                case atStart => exact ⟨0, by omega, rfl, rfl, rfl⟩
                case round =>
                  obtain ⟨t, t2, rfl, rfl, rfl⟩ := hrel
                  by_cases ht : t < kf
                  · have htz : (t : Int) < (kf : Int) := by omega
                    obtain ⟨b, off, rfl, hb⟩ := Nu.open NF.out (by omega)
                    obtain ⟨y, hy, dy⟩ := Nu.get (NF.out.later HBR.out) (q := t) ht
                    have hbl := Nat.lt_of_lt_of_le hb HBR.out.size
                    have AN : Hid ((F.take (t + 1)).any (fun x => x == (q : Int)) = ((F.take t).any (fun x => x == (q : Int)) || (y == (q : Int)))) := any_next hy q
                    clear hy
                    generalize (F.take t).any (fun x => x == (q : Int)) = N0 at *
                    cases N0 with
                    | true =>
                      go_wp2
                      go_roundw
                      case rel => exact ⟨t + 1, by omega, by first | rfl | simp, by rw [AN.out]; simp, by first | rfl | trivial⟩
                      case measure => simp [intOf]; omega
                    | false =>
                      go_wp2
                      go_roundw
                      case rel => exact ⟨t + 1, by omega, by first | rfl | simp, by rw [AN.out]; simp, by first | rfl | trivial⟩
                      case measure => simp [intOf]; omega
                  · obtain rfl : t = kf := by omega
                    have EA : Hid ((F.take t).any (fun x => x == (q : Int)) = F.any (fun x => x == (q : Int))) := by
                      show _ = _
                      rw [List.take_of_length_le (by have := HLF.out; omega)]
                    rw [EA.out]
                    obtain ⟨z, hz⟩ : ∃ z, z2[q]? = some z := ⟨_, List.getElem?_eq_getElem (by have := HL.out; omega)⟩
                    cases hany : F.any (fun x => x == (q : Int)) with
                    | true =>
                      have U2 := hidden (HU.out.keep ((any_mem F q).1 hany))
                      clear hz hany
                      go_wp2
                      go_roundw
                      case rel => exact ⟨q + 1, M, by omega, by first | rfl | simp, U2.out, VM.out, HBR.out⟩
                      case measure => simp [intOf]; omega
                    | false =>
                      have hnm : ¬ ((q : Int) ∈ F) := fun h => by
                        rw [(any_mem F q).2 h] at hany
                        cases hany
                      have U2 := hidden (HU.out.turn hnm hz)
                      have V2 := hidden (VM.out.set (HU.out.at hz) a4 a3)
                      obtain ⟨c0, c1, c2, c3⟩ := VM.out.cells (HU.out.at hz)
                      have f1 := VM.out.frozen (q * 4 + 2)
                      have f2 := VM.out.frozen (q * 4 + 1)
                      have f3 := VM.out.frozen (q * 4 + 3)
                      have hmb := VM.out.lt
                      have B2 : Hid (Below x3.heap.size x3 (((wr.setCell ⟨mb, q * 4 + 2, none⟩ (.int .i64 a3)).setCell ⟨mb, q * 4 + 1, none⟩ (.int .i64 a4)).setCell ⟨mb, q * 4 + 3, none⟩ (.bool false))) :=
                        HBR.out.trans ((((Only.setCell (F := [mb]) wr (by simp) _).then (Only.setCell _ (by simp) _)).then (Only.setCell _ (by simp) _)).below HBR.out.size (by have := HGE.out; simpa using this))
                      clear hz hany
                      go_wp2
                      go_roundw
                      case rel => exact ⟨q + 1, _, by omega, by first | rfl | simp, U2.out, V2.out, B2.out⟩
                      case measure => simp [intOf]; omega
              · obtain rfl : q = len2 := by omega
                have HU2 := HU.out
                rw [← HL.out] at HU2
                obtain ⟨m1, m2⟩ := SV.out M HU2
                obtain ⟨e1, e2⟩ := SS.out M HU2
                obtain ⟨e3, e4⟩ := next_same e1
                have B3 := hidden (HB3.out.trans (HBR.out.mono HB3.out.size))
                have AX := hidden (A.out wr B3.out)
                have AM := hidden (fun (W : World) (hW : Below wr.heap.size wr W) => next (cap := mc) ((VM.out.vs m1 hn8.2 m2).later hW) a0 a1)
                rw [e3, e4, e2] at AM
                generalize nV a0 a1 z2 = V at *
                generalize nB a0 a1 z2 = T at *
                generalize oE a0 z2 = E at *
                clear HU2 m1 m2 e1 e2 e3 e4 A SS SV
                go_wp2_with fail
                refine Calls.mono AX.out ?_
                rintro e y1 ⟨rfl, hB⟩
                have HC1 := hidden hB
                clear hB AX
                go_wp2_with fail
                refine Calls.mono (AM.out _ HC1.out) ?_
                rintro e y2 ⟨rfl, hB⟩
                have HC2 := hidden (B3.out.trans ((HC1.out.trans (hB.mono HC1.out.size)).mono B3.out.size))
                clear hB AM
                go_wp2
                go_ret
                exact ⟨by simp, HC2.out⟩
  · have hc2 : (chk z2 != 0) = true := by simp [hc]
    generalize chk z2 = C at *
    clear w0 w1 w2 w3 w4 s2 hl
    go_enter Try.func7, Try.ntmps7
    go_wp2_with fail
    refine Calls.mono (AW.out _) ?_
    rintro e x1 ⟨rfl, hB⟩
    have HB1 := hidden hB
    clear hB AW
    go_wp2_with fail
    refine Calls.mono (L.out _ HB1.out) ?_
    rintro e x2 ⟨rfl, hB⟩
    have HB2 := hidden (HB1.out.trans (hB.mono HB1.out.size))
    clear hB L
    go_wp2
    go_ret
    exact ⟨by first | rfl | simp, HB2.out⟩

theorem contract (H : Type) (enc : TypeId × Value → H) (W : World) (base : Nat) (args : Array Value) (ds gs : List (DataW H)) (before : List MemPlace)
    (hval : ∀ (j : Nat) t v, Try.f7.params[j]? = some t → args[j]? = some v → Value.okWide Try.prog W .any base t v)
    (hW : DataW.Whole enc Try.prog Try.f7.params.toList Rows.schedSeenSpec.vars false W args.toList ds gs before)
    (hsz0 : (DataW.weightsEach Try.prog (Try.f7.params.toList ++ Rows.schedSeenSpec.plain.varTypes Try.prog) (ds ++ gs)).all (· ≤ reachBytes) = true) :
    Calls Try.prog 7 args W fun e W' => ∃ v, e = .returned v ∧ Rows.schedSeenSpec.post enc Try.prog Try.f7 false true false false W args v W' := by
  have hW' := hW
  obtain ⟨p, q, hA0, hV, rfl, hfz, hnd⟩ := hW
  have hA : DataW.TrodAll enc Try.prog W 0 (fun _ => true) true Try.f7.params.toList args.toList ds p := hA0
  have hsz := hsz0
  rw [Try.params7] at hA hval hsz
  obtain ⟨v0, vs0, d0, ds0, p0, q0, hargs, rfl, rfl, h0, r0⟩ := trodAll_cons hA
  obtain ⟨v1, vs1, d1, ds1, p1, q1, rfl, rfl, rfl, h1, r1⟩ := trodAll_cons r0
  obtain ⟨v2, vs2, d2, ds2, p2, q2, rfl, rfl, rfl, h2, r2⟩ := trodAll_cons r1
  obtain ⟨v3, vs3, d3, ds3, p3, q3, rfl, rfl, rfl, h3, r3⟩ := trodAll_cons r2
  obtain ⟨v4, vs4, d4, ds4, p4, q4, rfl, rfl, rfl, h4, r4⟩ := trodAll_cons r3
  obtain ⟨rfl, rfl, rfl⟩ := trodAll_nil r4
  obtain rfl : args = #[v0, v1, v2, v3, v4] := by cases args; simp_all
  obtain ⟨rfl, rfl⟩ := trodVars_none hV
  obtain ⟨a0, rfl, rfl, rfl, w0⟩ := open_int Try.underlying3 (hval 0 3 v0 rfl rfl) h0
  obtain ⟨a1, rfl, rfl, rfl, w1⟩ := open_int Try.underlying3 (hval 1 3 v1 rfl rfl) h1
  obtain ⟨a2, len2, cap2, rfl⟩ := okWide_slice Try.underlying22 (hval 2 22 v2 rfl rfl)
  have k2 := h2
  have lt2 : ∀ x ∈ p2, x.block < W.heap.size := by obtain ⟨m, hm⟩ := k2; exact DataW.trod_lt m _ _ _ hm
  have sz2 : (d2.weights Try.prog 22).all (· ≤ reachBytes) = true := List.all_eq_true.2 fun m hm => List.all_eq_true.1 hsz m (DataW.weights_mem_each (j := 2) rfl rfl m hm)
  obtain ⟨z2, w2, s2⟩ : ∃ zs, Ag.Rows (fun q : Int × Int × Int × Bool => [.int .i64 q.1, .int .i64 q.2.1, .int .i64 q.2.2.1, .bool q.2.2.2]) (fun q => (Lit.int .i64 q.1).wf = true ∧ (Lit.int .i64 q.2.1).wf = true ∧ (Lit.int .i64 q.2.2.1).wf = true) 4 W a2 len2 zs ∧ len2 ≤ cap2 ∧ cap2 * Try.prog.bytesOf 42 ≤ 140737488351232 ∧ (a2 = none → len2 = 0 ∧ cap2 = 0) := by
    obtain ⟨fuel, hf⟩ := h2
    exact Ag.rows_arg kd42 Try.underlying22 (Nat.le_of_ble_eq_true (by kernel_rfl)) hf sz2
  obtain ⟨a3, rfl, rfl, rfl, w3⟩ := open_int Try.underlying3 (hval 3 3 v3 rfl rfl) h3
  obtain ⟨a4, rfl, rfl, rfl, w4⟩ := open_int Try.underlying3 (hval 4 3 v4 rfl rfl) h4
  clear hA0 hsz0 hsz
  refine (walk a0 a1 a2 len2 cap2 z2 a3 a4 W w0 w1 w2 s2 w3 w4).mono fun e W' ⟨he, bel⟩ => ?_
  subst he
  exact ⟨_, rfl, _, _, _, [], _, [], hW', trodAll_mk1 (shut_bool Try.underlying4 _), (trodAll_cons_mk (shut_int Try.underlying3 w0) (trodAll_cons_mk (shut_int Try.underlying3 w1) (trodAll_cons_mk (Below.trod laidOut (by kernel_rfl) (of_decide_eq_true (by kernel_rfl)) k2 bel lt2) (trodAll_cons_mk (shut_int Try.underlying3 w3) (trodAll_cons_mk (shut_int Try.underlying3 w4) trodAll_mk0))))), rfl, bel.frame _, fun h => by cases h⟩

noncomputable def laidWorld (os : Os) : World :=
  World.holding Try.prog os ⟨#[], #[], []⟩
theorem laid_met (os : Os) : laidMet Try.prog Rows.schedSeenRow.laid ((laidWorld os).forCall (fun _ _ => 0) ⟨#[], #[.int .i64 0, .int .i64 0, .slice none 0 0, .int .i64 0, .int .i64 0], []⟩).memory :=
  laidMet_of_run' 8 (by kernel_rfl) (by kernel_rfl)
theorem reads (os : Os) {H : Type} (enc : TypeId × Value → H) : ∃ places, DataW.whole enc Try.prog ((laidWorld os).forCall (fun _ _ => 0) ⟨#[], #[.int .i64 0, .int .i64 0, .slice none 0 0, .int .i64 0, .int .i64 0], []⟩).memory Try.f7.params.toList Rows.schedSeenSpec.vars false #[Value.int .i64 0, Value.int .i64 0, Value.slice none 0 0, Value.int .i64 0, Value.int .i64 0].toList 8 = some ([.lit (.int .i64 0), .lit (.int .i64 0), .nil, .lit (.int .i64 0), .lit (.int .i64 0)], [], places) :=
  ⟨[], by kernel_rfl⟩

set_option maxRecDepth 100000 in
theorem lifted (os : Os) (started : os.Started) (H : Type) (enc : TypeId × Value → H) (F : Stop.Interp) :
    ReturnsInHanded {} Try.checked os 7 .any ((OpenSpec.ofChange Rows.schedSeenSpec).preRow enc Try.prog Try.f7 Rows.schedSeenRow.domain false Rows.schedSeenRow.laid) (((OpenSpec.ofChange Rows.schedSeenSpec).at F).post enc Try.prog Try.f7 false true false false) := by
  obtain ⟨places, hx⟩ := reads os enc
  refine returnsInHanded_of_row (C := Try.checked) (s := OpenSpec.ofChange Rows.schedSeenSpec) own started (by kernel_rfl) Try.func7
    (witness_row_at (enc := enc) (C := Try.checked) false (laidWorld os) #[.int .i64 0, .int .i64 0, .slice none 0 0, .int .i64 0, .int .i64 0] rfl (by kernel_rfl) (by kernel_rfl) (by kernel_rfl)
      (OpenSpec.preRow_of_cond 8 hx (by kernel_rfl) (fun k hk => by cases hk) (by kernel_rfl) (laid_met os))) ?_
  intro W base args ds gs before hval hW _ hcond hsz hL _ _
  exact contract H enc W base args ds gs before hval hW hsz

theorem said : Rows.SchedSeenSaid :=
  OpenClaim.holds_of_cond 7 Try.f7 rfl rfl rfl rfl rfl rfl rfl ⟨rfl, rfl, rfl, rfl, rfl⟩ rfl rfl rfl rfl rfl (by kernel_rfl) Try.func7 (by kernel_rfl)
    (of_decide_eq_true (by kernel_rfl)) (by unfold Func.isWrapper; first | (rw [if_pos (by decide +kernel)]; kernel_rfl) | (rw [if_neg (by decide +kernel)]; exact ⟨rfl, rfl⟩))
    (fun os started H enc _ F => by rw [OpenClaim.pre_eq_preRow]; exact lifted os started H enc F)

/-- THE STATEMENT -/
theorem proved : Rows.SchedSeenSaid := said
#print axioms proved
end Go.Proofs.Ytcflcibncbipbaa.schedSeen
