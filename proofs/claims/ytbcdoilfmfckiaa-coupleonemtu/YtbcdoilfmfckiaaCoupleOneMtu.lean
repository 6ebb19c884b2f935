/-
  What CoupleOneMtu says of every report is true: by one report all windows together grow by at most one MTU, and none shrinks (P13.5). Conditions: none.
-/
import Derived.Test.YtbcdoilfmfckiaaRows
import Derived.WalkKit
import Derived.ProofKit
import Derived.OpenShut
import Derived.ShutString
import Derived.ChangeOld
import Derived.Below
import Derived.SizedLaws
import Derived.Deep.DeepHandedRow
import Derived.LaidLaws
import Derived.ChangeMaps5
import Derived.Test.YtbcdoilfmfckiaaCoH
import Derived.Test.YtbcdoilfmfckiaaAg
namespace Go.Proofs.Ytbcdoilfmfckiaa.coupleOneMtu
open Go.ChangeShapes Go.WideShapes Go.ChangeAt Go.RowKit
open Go.ChangeMaps (open_string shut_string)
set_option linter.unusedVariables false

theorem own : ownKnob Try.prog.godebug = none := by kernel_rfl
theorem laidOut : laidOutB Try.prog = true := by kernel_rfl

theorem kd43 : Ag.Kind Try.prog 43 2 (fun q : Int × Int => [.int .i64 q.1, .int .i64 q.2]) (fun q => (Lit.int .i64 q.1).wf = true ∧ (Lit.int .i64 q.2).wf = true) := by
  refine ⟨by kernel_rfl, by decide, fun _ => rfl, fun {H enc W base held fuel cl x} h _ => ?_⟩
  obtain ⟨xs, n, _, _, hcl, hxl, hfield⟩ := DataW.trod_struct Try.underlying43 h
  rw [show Try.prog.cellsOf 43 = 2 by kernel_rfl] at hcl
  match cl, hcl with
  | [v0, v1], _ =>
    match xs, hxl with
    | [y0, y1], _ =>
      have g0 := hfield 0 _ rfl
      simp [show Try.prog.cellsOf 3 = 1 by kernel_rfl] at g0
      obtain ⟨n0, e0, _, w0⟩ := DataW.trod_int Try.underlying3 g0
      simp at e0
      subst e0
      have g1 := hfield 1 _ rfl
      simp [show Try.prog.cellsOf 3 = 1 by kernel_rfl] at g1
      obtain ⟨n1, e1, _, w1⟩ := DataW.trod_int Try.underlying3 g1
      simp at e1
      subst e1
      exact ⟨(n0, n1), rfl, w0, w1⟩
open Ba (hidden Has)
open Ow (Own)
open Co
set_option maxHeartbeats 4000000 in
set_option maxRecDepth 20000 in

theorem walk (a0 : Option Addr) (len0 cap0 : Nat) (z0 : List (Int × Int)) (a1 : Option Addr) (len1 cap1 : Nat) (z1 : List (Int)) (a2 : Int) (a3 : Int) (w : World) (w0 : Ag.Rows (fun q : Int × Int => [.int .i64 q.1, .int .i64 q.2]) (fun q => (Lit.int .i64 q.1).wf = true ∧ (Lit.int .i64 q.2).wf = true) 2 w a0 len0 z0) (s0 : len0 ≤ cap0 ∧ cap0 * Try.prog.bytesOf 43 ≤ 140737488351232 ∧ (a0 = none → len0 = 0 ∧ cap0 = 0)) (w1 : Ag.Rows (fun n : Int => [.int .i64 n]) (fun n => (Lit.int .i64 n).wf = true) 1 w a1 len1 z1) (s1 : len1 ≤ cap1 ∧ cap1 * Try.prog.bytesOf 3 ≤ 140737488351232 ∧ (a1 = none → len1 = 0 ∧ cap1 = 0)) (w2 : (Lit.int .i64 a2).wf = true) (w3 : (Lit.int .i64 a3).wf = true) :
    Calls Try.prog 7 #[.slice a0 len0 cap0, .slice a1 len1 cap1, .int .i64 a2, .int .i64 a3] w fun e w' => e = .returned (.bool true) ∧ Below w.heap.size w w' := by
  have AW := hidden Co.alive
  have hl := w0.1
  have hn : len0 ≤ 140737488355328 := w0.2.2.1
  clear w2 w3 s0 s1
  by_cases hk : okF z0 a2
  · by_cases hw : whF z0 z1 a3
    · have h8 : len0 ≤ 8 := by rw [← hl]; exact hk.1.2
      have h1 : 1 ≤ len0 := by rw [← hl]; exact hk.1.1
      have GR := hidden (grown_ok (cap := cap0) (cap2 := cap1) w0 w1 hk hw)
      have HIN : Hid (∀ q : Int, 0 ≤ q → q < len0 → ∃ c t V : Int, z0[q.toNat]? = some (c, t) ∧ (gw z0 z1 a2 a3 len0)[q.toNat]? = some (V, t) ∧ (1 ≤ c ∧ c ≤ 1073741824) ∧ c ≤ V ∧ (0 ≤ inc z0 z1 a2 a3 q.toNat ∧ inc z0 z1 a2 a3 q.toNat ≤ 65536) ∧ (inc z0 z1 a2 a3 (q + 1).toNat ≤ 65536) ∧ inc z0 z1 a2 a3 q.toNat + V - c = inc z0 z1 a2 a3 (q + 1).toNat) := fun q q1 q2 => by
        obtain ⟨c, t, hz⟩ := get_ (zs := z0) (q := q.toNat) (by omega)
        have hgd := hk.2.2 _ (List.mem_of_getElem? hz)
        simp only [good] at hgd
        have h3 := wn_in (k := a3) hk.2.2 hw.2.2 hw.1 (m := a2) (by have := hk.2.1; omega) (by omega) hz
        have h4 := inc_all hk hw (q := q.toNat) (by omega)
        have h5 := inc_all hk hw (q := q.toNat + 1) (by omega)
        have h6 := hk.2.1
        refine ⟨c, t, _, hz, by rw [gw_get (by omega), if_pos (by omega), getD_at hz], hgd.1, h3.1, by omega, by rw [show (q + 1).toNat = q.toNat + 1 by omega]; omega, ?_⟩
        rw [show (q + 1).toNat = q.toNat + 1 by omega]
        simp only [inc, getD_at hz]
        omega
      have HE : Hid (inc z0 z1 a2 a3 len0 ≤ a2) := by
        show inc z0 z1 a2 a3 len0 ≤ a2
        rw [← hl]
        exact inc_one hk hw
      have HZ := hidden w0
      obtain ⟨b, off, rfl, hb⟩ := Fl.open w0 (by omega)
      clear w0 w1 hk hw hl
      go_enter Try.func7, Try.ntmps7
      go_wp2_with fail
      refine Calls.mono GR.out ?_
      rintro e w1 ⟨v, rfl, hown, hB⟩
      obtain ⟨g, cg, rfl, hg1, hg2, hg3, hg4⟩ := Ba.own_some hown (by omega)
      have OW := hidden hown
      have HB := hidden hB
      clear hown hB GR hg1 hg2 hg4
      go_wp2_with fail
      go_loopw [11, 12] (fun s i wr => ∃ q x : Int, 0 ≤ q ∧ q ≤ (len0 : Int) ∧ i = .int .i64 q ∧ s = .int .i64 x ∧ Hid (x = inc z0 z1 a2 a3 q.toNat) ∧ Hid (Below w1.heap.size w1 wr)) (fun _ i _ => len0 - (intOf i).toNat)
      case atStart => exact ⟨0, 0, by omega, by omega, rfl, rfl, rfl, Below.refl _ _⟩
      case round =>
        obtain ⟨q, x, j1, j2, rfl, rfl, HX, HR⟩ := hrel
        by_cases hq : q < (len0 : Int)
        · obtain ⟨c, t, V, hz, hz2, hc, hV, hi1, hi2, hi3⟩ := HIN.out q j1 hq
          rw [← HX.out] at hi1 hi3
          have HN := hidden hi3
          obtain ⟨c', t', hz', d0, d1⟩ := Fl.get ((HZ.out.later HB.out).later HR.out) (q := q.toNat) (by omega)
          rw [hz] at hz'
          cases hz'
          have OWr := row_below OW.out HR.out
          have e0 := OWr.cellAt (q.toNat * 2) (by omega)
          have e1 := OWr.cellAt (q.toNat * 2 + 1) (by omega)
          rw [(fc_c _ _ hz2).1] at e0
          rw [(fc_c _ _ hz2).2] at e1
          have hw1 : IntKind.i64.wrap (x + V) = x + V := by rw [IntKind.wrap_i64]; omega
          have hw2 : IntKind.i64.wrap (x + V - c) = x + V - c := by rw [IntKind.wrap_i64]; omega
          have hlt : ¬ V < c := by omega
          clear hz hz2 OWr hi1 hi2 hi3 hc hV
          go_wp2
          go_quiet (fail)
          go_wp2
          go_quiet (fail)
          go_wp2
          go_roundw
          case rel => exact ⟨q + 1, x + V - c, by omega, by omega, rfl, by first | rfl | simp [hw1, hw2], HN.out, below_drewN HR.out _⟩
          case measure => simp [intOf]; omega
        · obtain rfl : q = (len0 : Int) := by omega
          have hx : x ≤ a2 := by
            rw [HX.out]
            exact HE.out
          clear HX
          go_wp2_with fail
          refine Calls.mono (AW.out _) ?_
          rintro e w2 ⟨rfl, hB⟩
          have HB2 := hidden ((HB.out.trans (HR.out.mono HB.out.size)).trans (hB.mono (HB.out.trans (HR.out.mono HB.out.size)).size))
          clear hB
          go_wp2
          go_ret
          exact ⟨rfl, HB2.out⟩
    · have GR := hidden (grown_arg (cap := cap0) (cap2 := cap1) w0 w1 hk hw)
      clear w0 w1 hk hw hl
      go_enter Try.func7, Try.ntmps7
      go_wp2_with fail
      refine Calls.mono GR.out ?_
      rintro e w1 ⟨rfl, hB⟩
      have HB := hidden hB
      clear hB GR
      go_wp2_with fail
      refine Calls.mono (AW.out _) ?_
      rintro e w2 ⟨rfl, hB⟩
      have HB2 := hidden (HB.out.trans (hB.mono HB.out.size))
      clear hB
      go_wp2
      go_ret
      exact ⟨rfl, HB2.out⟩
  · have GR := hidden (grown_no (cap := cap0) (cap2 := cap1) w0 w1 hk a3)
    clear w0 w1 hk hl
    go_enter Try.func7, Try.ntmps7
    go_wp2_with fail
    refine Calls.mono GR.out ?_
    rintro e w1 ⟨rfl, hB⟩
    have HB := hidden hB
    clear hB GR
    go_wp2_with fail
    refine Calls.mono (AW.out _) ?_
    rintro e w2 ⟨rfl, hB⟩
    have HB2 := hidden (HB.out.trans (hB.mono HB.out.size))
    clear hB
    go_wp2
    go_ret
    exact ⟨rfl, HB2.out⟩

theorem contract (H : Type) (enc : TypeId × Value → H) (W : World) (base : Nat) (args : Array Value) (ds gs : List (DataW H)) (before : List MemPlace)
    (hval : ∀ (j : Nat) t v, Try.f7.params[j]? = some t → args[j]? = some v → Value.okWide Try.prog W .any base t v)
    (hW : DataW.Whole enc Try.prog Try.f7.params.toList Rows.coupleOneMtuSpec.vars false W args.toList ds gs before)
    (hsz0 : (DataW.weightsEach Try.prog (Try.f7.params.toList ++ Rows.coupleOneMtuSpec.plain.varTypes Try.prog) (ds ++ gs)).all (· ≤ reachBytes) = true) :
    Calls Try.prog 7 args W fun e W' => ∃ v, e = .returned v ∧ Rows.coupleOneMtuSpec.post enc Try.prog Try.f7 false true false false W args v W' := by
  have hW' := hW
  obtain ⟨p, q, hA0, hV, rfl, hfz, hnd⟩ := hW
  have hA : DataW.TrodAll enc Try.prog W 0 (fun _ => true) true Try.f7.params.toList args.toList ds p := hA0
  have hsz := hsz0
  rw [Try.params7] at hA hval hsz
  obtain ⟨v0, vs0, d0, ds0, p0, q0, hargs, rfl, rfl, h0, r0⟩ := trodAll_cons hA
  obtain ⟨v1, vs1, d1, ds1, p1, q1, rfl, rfl, rfl, h1, r1⟩ := trodAll_cons r0
  obtain ⟨v2, vs2, d2, ds2, p2, q2, rfl, rfl, rfl, h2, r2⟩ := trodAll_cons r1
  obtain ⟨v3, vs3, d3, ds3, p3, q3, rfl, rfl, rfl, h3, r3⟩ := trodAll_cons r2
  obtain ⟨rfl, rfl, rfl⟩ := trodAll_nil r3
  obtain rfl : args = #[v0, v1, v2, v3] := by cases args; simp_all
  obtain ⟨rfl, rfl⟩ := trodVars_none hV
  obtain ⟨a0, len0, cap0, rfl⟩ := okWide_slice Try.underlying22 (hval 0 22 v0 rfl rfl)
  have k0 := h0
  have lt0 : ∀ x ∈ p0, x.block < W.heap.size := by obtain ⟨m, hm⟩ := k0; exact DataW.trod_lt m _ _ _ hm
  have sz0 : (d0.weights Try.prog 22).all (· ≤ reachBytes) = true := List.all_eq_true.2 fun m hm => List.all_eq_true.1 hsz m (DataW.weights_mem_each (j := 0) rfl rfl m hm)
  obtain ⟨z0, w0, s0⟩ : ∃ zs, Ag.Rows (fun q : Int × Int => [.int .i64 q.1, .int .i64 q.2]) (fun q => (Lit.int .i64 q.1).wf = true ∧ (Lit.int .i64 q.2).wf = true) 2 W a0 len0 zs ∧ len0 ≤ cap0 ∧ cap0 * Try.prog.bytesOf 43 ≤ 140737488351232 ∧ (a0 = none → len0 = 0 ∧ cap0 = 0) := by
    obtain ⟨fuel, hf⟩ := h0
    exact Ag.rows_arg kd43 Try.underlying22 (Nat.le_of_ble_eq_true (by kernel_rfl)) hf sz0
  obtain ⟨a1, len1, cap1, rfl⟩ := okWide_slice Try.underlying35 (hval 1 35 v1 rfl rfl)
  have k1 := h1
  have lt1 : ∀ x ∈ p1, x.block < W.heap.size := by obtain ⟨m, hm⟩ := k1; exact DataW.trod_lt m _ _ _ hm
  have sz1 : (d1.weights Try.prog 35).all (· ≤ reachBytes) = true := List.all_eq_true.2 fun m hm => List.all_eq_true.1 hsz m (DataW.weights_mem_each (j := 1) rfl rfl m hm)
  obtain ⟨z1, w1, s1⟩ : ∃ zs, Ag.Rows (fun n : Int => [.int .i64 n]) (fun n => (Lit.int .i64 n).wf = true) 1 W a1 len1 zs ∧ len1 ≤ cap1 ∧ cap1 * Try.prog.bytesOf 3 ≤ 140737488351232 ∧ (a1 = none → len1 = 0 ∧ cap1 = 0) := by
    obtain ⟨fuel, hf⟩ := h1
    exact Ag.rows_arg (Ag.kind_int Try.underlying3 (by kernel_rfl)) Try.underlying35 (Nat.le_of_ble_eq_true (by kernel_rfl)) hf sz1
  obtain ⟨a2, rfl, rfl, rfl, w2⟩ := open_int Try.underlying3 (hval 2 3 v2 rfl rfl) h2
  obtain ⟨a3, rfl, rfl, rfl, w3⟩ := open_int Try.underlying3 (hval 3 3 v3 rfl rfl) h3
  clear hA0 hsz0 hsz
  refine (walk a0 len0 cap0 z0 a1 len1 cap1 z1 a2 a3 W w0 s0 w1 s1 w2 w3).mono fun e W' ⟨he, bel⟩ => ?_
  subst he
  exact ⟨_, rfl, _, _, _, [], _, [], hW', trodAll_mk1 (shut_bool Try.underlying4 _), (trodAll_cons_mk (Below.trod laidOut (by kernel_rfl) (of_decide_eq_true (by kernel_rfl)) k0 bel lt0) (trodAll_cons_mk (Below.trod laidOut (by kernel_rfl) (of_decide_eq_true (by kernel_rfl)) k1 bel lt1) (trodAll_cons_mk (shut_int Try.underlying3 w2) (trodAll_cons_mk (shut_int Try.underlying3 w3) trodAll_mk0)))), rfl, bel.frame _, fun h => by cases h⟩

noncomputable def laidWorld (os : Os) : World :=
  World.holding Try.prog os ⟨#[], #[], []⟩
theorem laid_met (os : Os) : laidMet Try.prog Rows.coupleOneMtuRow.laid ((laidWorld os).forCall (fun _ _ => 0) ⟨#[], #[.slice none 0 0, .slice none 0 0, .int .i64 0, .int .i64 0], []⟩).memory :=
  laidMet_of_run' 8 (by kernel_rfl) (by kernel_rfl)
theorem reads (os : Os) {H : Type} (enc : TypeId × Value → H) : ∃ places, DataW.whole enc Try.prog ((laidWorld os).forCall (fun _ _ => 0) ⟨#[], #[.slice none 0 0, .slice none 0 0, .int .i64 0, .int .i64 0], []⟩).memory Try.f7.params.toList Rows.coupleOneMtuSpec.vars false #[Value.slice none 0 0, Value.slice none 0 0, Value.int .i64 0, Value.int .i64 0].toList 8 = some ([.nil, .nil, .lit (.int .i64 0), .lit (.int .i64 0)], [], places) :=
  ⟨[], by kernel_rfl⟩

set_option maxRecDepth 100000 in
theorem lifted (os : Os) (started : os.Started) (H : Type) (enc : TypeId × Value → H) (F : Stop.Interp) :
    ReturnsInHanded {} Try.checked os 7 .any ((OpenSpec.ofChange Rows.coupleOneMtuSpec).preRow enc Try.prog Try.f7 Rows.coupleOneMtuRow.domain false Rows.coupleOneMtuRow.laid) (((OpenSpec.ofChange Rows.coupleOneMtuSpec).at F).post enc Try.prog Try.f7 false true false false) := by
  obtain ⟨places, hx⟩ := reads os enc
  refine returnsInHanded_of_row (C := Try.checked) (s := OpenSpec.ofChange Rows.coupleOneMtuSpec) own started (by kernel_rfl) Try.func7
    (witness_row_at (enc := enc) (C := Try.checked) false (laidWorld os) #[.slice none 0 0, .slice none 0 0, .int .i64 0, .int .i64 0] rfl (by kernel_rfl) (by kernel_rfl) (by kernel_rfl)
      (OpenSpec.preRow_of_cond 8 hx (by kernel_rfl) (fun k hk => by cases hk) (by kernel_rfl) (laid_met os))) ?_
  intro W base args ds gs before hval hW _ hcond hsz hL _ _
  exact contract H enc W base args ds gs before hval hW hsz

theorem said : Rows.CoupleOneMtuSaid :=
  OpenClaim.holds_of_cond 7 Try.f7 rfl rfl rfl rfl rfl rfl rfl ⟨rfl, rfl, rfl, rfl, rfl⟩ rfl rfl rfl rfl rfl (by kernel_rfl) Try.func7 (by kernel_rfl)
    (of_decide_eq_true (by kernel_rfl)) (by unfold Func.isWrapper; first | (rw [if_pos (by decide +kernel)]; kernel_rfl) | (rw [if_neg (by decide +kernel)]; exact ⟨rfl, rfl⟩))
    (fun os started H enc _ F => by rw [OpenClaim.pre_eq_preRow]; exact lifted os started H enc F)

/-- THE STATEMENT -/
theorem proved : Rows.CoupleOneMtuSaid := said
#print axioms proved
end Go.Proofs.Ytbcdoilfmfckiaa.coupleOneMtu
