/-
  What SplitBounds says of every call is true: whatever paths begin, no path has a share and one packet outstanding (P14.5). Conditions: none.
-/
import Derived.Test.YtbnmcjajhcgcnaaRows
import Derived.WalkKit
import Derived.ProofKit
import Derived.OpenShut
import Derived.ShutString
import Derived.ChangeOld
import Derived.Below
import Derived.SizedLaws
import Derived.Deep.DeepHandedRow
import Derived.LaidLaws
import Derived.ChangeMaps5
import Derived.Test.YtbnmcjajhcgcnaaShH
import Derived.Test.YtbnmcjajhcgcnaaAg
namespace Go.Proofs.Ytbnmcjajhcgcnaa.splitBounds
open Go.ChangeShapes Go.WideShapes Go.ChangeAt Go.RowKit
open Go.ChangeMaps (open_string shut_string)
set_option linter.unusedVariables false

theorem own : ownKnob Try.prog.godebug = none := by kernel_rfl
theorem laidOut : laidOutB Try.prog = true := by kernel_rfl

theorem kd23 : Ag.Kind Try.prog 23 3 (fun q : Int × Int × Int => [.int .i64 q.1, .int .i64 q.2.1, .int .i64 q.2.2]) (fun q => (Lit.int .i64 q.1).wf = true ∧ (Lit.int .i64 q.2.1).wf = true ∧ (Lit.int .i64 q.2.2).wf = true) := by
  refine ⟨by kernel_rfl, by decide, fun _ => rfl, fun {H enc W base held fuel cl x} h _ => ?_⟩
  obtain ⟨xs, n, _, _, hcl, hxl, hfield⟩ := DataW.trod_struct Try.underlying23 h
  rw [show Try.prog.cellsOf 23 = 3 by kernel_rfl] at hcl
  match cl, hcl with
  | [v0, v1, v2], _ =>
    match xs, hxl with
    | [y0, y1, y2], _ =>
      have g0 := hfield 0 _ rfl
      simp [show Try.prog.cellsOf 3 = 1 by kernel_rfl] at g0
      obtain ⟨n0, e0, _, w0⟩ := DataW.trod_int Try.underlying3 g0
      simp at e0
      subst e0
      have g1 := hfield 1 _ rfl
      simp [show Try.prog.cellsOf 3 = 1 by kernel_rfl] at g1
      obtain ⟨n1, e1, _, w1⟩ := DataW.trod_int Try.underlying3 g1
      simp at e1
      subst e1
      have g2 := hfield 2 _ rfl
      simp [show Try.prog.cellsOf 3 = 1 by kernel_rfl] at g2
      obtain ⟨n2, e2, _, w2⟩ := DataW.trod_int Try.underlying3 g2
      simp at e2
      subst e2
      exact ⟨(n0, n1, n2), rfl, w0, w1, w2⟩
theorem kd46 : Ag.Kind Try.prog 46 2 (fun q : Int × Int => [.int .i64 q.1, .int .i64 q.2]) (fun q => (Lit.int .i64 q.1).wf = true ∧ (Lit.int .i64 q.2).wf = true) := by
  refine ⟨by kernel_rfl, by decide, fun _ => rfl, fun {H enc W base held fuel cl x} h _ => ?_⟩
  obtain ⟨xs, n, _, _, hcl, hxl, hfield⟩ := DataW.trod_struct Try.underlying46 h
  rw [show Try.prog.cellsOf 46 = 2 by kernel_rfl] at hcl
  match cl, hcl with
  | [v0, v1], _ =>
    match xs, hxl with
    | [y0, y1], _ =>
      have g0 := hfield 0 _ rfl
      simp [show Try.prog.cellsOf 3 = 1 by kernel_rfl] at g0
      obtain ⟨n0, e0, _, w0⟩ := DataW.trod_int Try.underlying3 g0
      simp at e0
      subst e0
      have g1 := hfield 1 _ rfl
      simp [show Try.prog.cellsOf 3 = 1 by kernel_rfl] at g1
      obtain ⟨n1, e1, _, w1⟩ := DataW.trod_int Try.underlying3 g1
      simp at e1
      subst e1
      exact ⟨(n0, n1), rfl, w0, w1⟩
open Ba (hidden Has)
open Ow (Own)
open Sh
set_option maxRecDepth 20000 in
set_option maxHeartbeats 4000000 in

theorem walk (q0 : Int × Int × Int) (a1 : Option Addr) (len1 cap1 : Nat) (z1 : List (Int × Int)) (w : World) (w0 : (fun q => (Lit.int .i64 q.1).wf = true ∧ (Lit.int .i64 q.2.1).wf = true ∧ (Lit.int .i64 q.2.2).wf = true) q0) (w1 : Ag.Rows (fun q : Int × Int => [.int .i64 q.1, .int .i64 q.2]) (fun q => (Lit.int .i64 q.1).wf = true ∧ (Lit.int .i64 q.2).wf = true) 2 w a1 len1 z1) (s1 : len1 ≤ cap1 ∧ cap1 * Try.prog.bytesOf 46 ≤ 140737488351232 ∧ (a1 = none → len1 = 0 ∧ cap1 = 0)) :
    Calls Try.prog 5 #[.agg ((fun q : Int × Int × Int => [.int .i64 q.1, .int .i64 q.2.1, .int .i64 q.2.2]) q0).toArray, .slice a1 len1 cap1] w fun e w' => e = .returned (.bool true) ∧ Below w.heap.size w w' := by
  obtain ⟨B, P, M⟩ := q0
  have AW := hidden Sh.awake
  have SH := hidden (share B P M)
  have O := hidden ((Own.refl w).alloc #[.int .i64 B, .int .i64 P, .int .i64 M] 23)
  have hln : len1 ≤ 140737488355328 := w1.2.2.1
  clear w0 s1
  by_cases hk : okS B P M
  case neg =>
    rw [(sh_no hk).1, (sh_no hk).2] at SH
    clear hk w1
    go_enter Try.func5, Try.ntmps5
    go_wp2_with fail
    refine Calls.mono (AW.out _) ?_
    rintro e w1 ⟨rfl, hB⟩
    have O1 := hidden (O.out.later hB)
    obtain ⟨c0, c1, c2⟩ := cells3 O1.out (.head _)
    clear hB O
    go_wp2_with fail
    refine Calls.mono (SH.out _) ?_
    rintro e w2 ⟨rfl, hB⟩
    have O2 := hidden (O1.out.later hB)
    clear hB O1
    go_wp2
    go_ret
    exact ⟨rfl, O2.out.below⟩
  rw [(sh_ok hk).1, (sh_ok hk).2] at SH
  have hBB : byt B := ⟨by have := hk.1; omega, hk.1.2⟩
  have hV := part_in hBB hk.2.1
  have hM := hk.2.2
  have hP := hk.2.1
  obtain ⟨n, rfl⟩ : ∃ n : Nat, P = (n : Int) := ⟨P.toNat, by omega⟩
  have h8 : n ≤ 8 := by omega
  have PL : Hid (∀ ys p z, pE B n M ys p z = 0 → (∀ y ∈ ys, 0 ≤ y ∧ y < Sh.part B n + M) → (pV B n M ys p z).length = ys.length ∧ ∀ y ∈ pV B n M ys p z, 0 ≤ y ∧ y < Sh.part B n + M) := fun ys p z h1 h2 => put_low h1 h2
  generalize Sh.part B (n : Int) = V at *
  have hw : IntKind.i64.wrap (V + M) = V + M := by rw [IntKind.wrap_i64]; omega
  have MF := hidden (make_full n h8)
  have T := hidden w1
  clear w1 hk hBB
  go_enter Try.func5, Try.ntmps5
  go_wp2_with fail
  refine Calls.mono (AW.out _) ?_
  rintro e w1 ⟨rfl, hB⟩
  have O1 := hidden (O.out.later hB)
  obtain ⟨c0, c1, c2⟩ := cells3 O1.out (.head _)
  clear hB O AW
  go_wp2_with fail
  refine Calls.mono (SH.out _) ?_
  rintro e w2 ⟨rfl, hB⟩
  have O2 := hidden (O1.out.later hB)
  clear hB O1 c0 c1 c2 SH
  obtain ⟨c0, c1, c2⟩ := cells3 O2.out (.head _)
  obtain ⟨w3, hmk, hnu, hB⟩ := MF.out w2
  have O3 := hidden (O2.out.later hB)
  have N3 := hidden hnu
  clear hB O2 hnu MF
  go_wp2_with fail
  go_loopw [7, 8] (fun v i wr => ∃ q : Int, 0 ≤ q ∧ q ≤ (len1 : Int) ∧ i = .int .i64 q ∧ ∃ a c ys, v = .slice a n c ∧ Hid (Nu wr a n ys) ∧ Hid (∀ y ∈ ys, 0 ≤ y ∧ y < V + M) ∧ Hid (Own w wr [(w.heap.size, #[.int .i64 B, .int .i64 (n : Int), .int .i64 M], 23)])) (fun _ i _ => len1 - (intOf i).toNat)
  case atStart => exact ⟨0, by omega, by omega, rfl, _, _, _, rfl, N3.out, fun y hy => by rw [List.eq_of_mem_replicate hy]; omega, O3.out⟩
  case round =>
    clear N3 O3 hmk c0 c1 c2
    obtain ⟨q, j1, j2, rfl, a, c, ys, rfl, N, LO, O⟩ := hrel
    by_cases hq : q < (len1 : Int)
    · obtain ⟨b, off, rfl, hb⟩ := Tu.open T.out (by omega)
      obtain ⟨p, z, hpw, d0, d1⟩ := Tu.get (T.out.later O.out.below) (q := q.toNat) (by omega)
      obtain ⟨c0, c1, c2⟩ := cells3 O.out (.head _)
      have HH : Hid (∀ X : World, Below wr.heap.size wr X → X.cell? ⟨w.heap.size, 0, none⟩ = some (.int .i64 B) ∧ X.cell? ⟨w.heap.size, 1, none⟩ = some (.int .i64 (n : Int)) ∧ X.cell? ⟨w.heap.size, 2, none⟩ = some (.int .i64 M) ∧ X.cell? ⟨b, off + q.toNat * 2, none⟩ = some (.int .i64 p) ∧ X.cell? ⟨b, off + q.toNat * 2 + 1, none⟩ = some (.int .i64 z) ∧ Below wr.heap.size wr X) := fun X hX => ⟨keep_cell hX c0, keep_cell hX c1, keep_cell hX c2, keep_cell hX d0, keep_cell hX d1, hX⟩
      have PX : Hid (∀ X : World, Below wr.heap.size wr X → Calls Try.prog 20 #[.agg #[.int .i64 B, .int .i64 (n : Int), .int .i64 M], .int .i64 p, .int .i64 z, .slice a n c] X fun e w' => ∃ a' k' c', e = .returned (.tuple #[.slice a' k' c', .int .i64 (pE B n M ys p z)]) ∧ Nu w' a' k' (pV B n M ys p z) ∧ Below wr.heap.size wr w') := fun X hX => (put (N.out.later hX) hpw).mono (by rintro e w' ⟨a', k', c', rfl, h1, h2⟩; exact ⟨a', k', c', rfl, h1, hX.trans (h2.mono hX.size)⟩)
      have PQ := hidden (fun h => PL.out ys p z h LO.out)
      generalize pE B n M ys p z = er at *
      generalize pV B n M ys p z = L at *
      clear hpw
      go_wp2_with fail
      go_region_held3 (fun X => X.cell? ⟨w.heap.size, 0, none⟩ = some (.int .i64 B) ∧ X.cell? ⟨w.heap.size, 1, none⟩ = some (.int .i64 (n : Int)) ∧ X.cell? ⟨w.heap.size, 2, none⟩ = some (.int .i64 M) ∧ X.cell? ⟨b, off + q.toNat * 2, none⟩ = some (.int .i64 p) ∧ X.cell? ⟨b, off + q.toNat * 2 + 1, none⟩ = some (.int .i64 z) ∧ Below wr.heap.size wr X)
        (first | (exact HH.out _ (below_drew (Below.refl _ _))) | (exact HH.out _ (by assumption)) | (trace_state; fail))
        (first
          | (go_at_call 20; refine Calls.mono (PX.out _ ?_) ?_; (first | assumption | exact below_drew (Below.refl _ _)); rintro e X ⟨a', k', c', rfl, hN, hX⟩))
      have OX := hidden (O.out.later hX)
      have NX := hidden hN
      have NO := hidden (N.out.later hX)
      clear hX hN HH PX d0 d1 c0 c1 c2 O N
      by_cases he : er = 0
      · obtain ⟨hl, hlo⟩ := PQ.out he
        have hkn : k' = n := by have := Nu.len NX.out; have := Nu.len NO.out; omega
        subst hkn
        subst he
        obtain ⟨c0, c1, c2⟩ := cells3 OX.out (.head _)
        have LX := hidden hlo
        clear hl hlo PQ NO LO
        go_wp2_with fail
        go_loopw [11] (fun k wk => ∃ r : Int, 0 ≤ r ∧ r ≤ (k' : Int) ∧ k = .int .i64 r ∧ Hid (Nu wk a' k' L) ∧ Hid (Own w wk [(w.heap.size, #[.int .i64 B, .int .i64 (k' : Int), .int .i64 M], 23)])) (fun k _ => k' - (intOf k).toNat)
        case atStart => exact ⟨0, by omega, by omega, rfl, NX.out, OX.out⟩
        case round =>
          clear NX OX c0 c1 c2
          obtain ⟨r, r1, r2, rfl, N, O⟩ := hrel
          by_cases hr : r < (k' : Int)
          · obtain ⟨g, og, rfl, hg⟩ := Nu.open N.out (by omega)
            obtain ⟨y, hy, d0⟩ := Nu.get N.out (q := r.toNat) (by omega)
            obtain ⟨c0, c1, c2⟩ := cells3 O.out (.head _)
            have hyl := (LX.out y (List.mem_of_getElem? hy)).2
            have hyl' : ¬ V + M ≤ y := by omega
            clear hy
            go_wp2
            go_quiet (fail)
            go_wp2
            go_roundw
            case rel => exact ⟨r + 1, by omega, by omega, rfl, N.out.later (below_drewN (Below.refl _ _) _), O.out.later (below_drewN (Below.refl _ _) _)⟩
            case measure => simp [intOf]; omega
          · obtain rfl : r = (k' : Int) := by omega
            go_wp2
            go_roundw
            case rel => exact ⟨q + 1, by omega, by omega, rfl, _, _, _, rfl, N.out, LX.out, O.out⟩
            case measure => simp [intOf]; omega
      · clear PQ
        go_wp2
        go_roundw
        case rel => exact ⟨q + 1, by omega, by omega, rfl, _, _, _, rfl, NO.out, LO.out, OX.out⟩
        case measure => simp [intOf]; omega
    · obtain rfl : q = (len1 : Int) := by omega
      go_wp2
      go_ret
      exact ⟨rfl, O.out.below⟩

theorem contract (H : Type) (enc : TypeId × Value → H) (W : World) (base : Nat) (args : Array Value) (ds gs : List (DataW H)) (before : List MemPlace)
    (hval : ∀ (j : Nat) t v, Try.f5.params[j]? = some t → args[j]? = some v → Value.okWide Try.prog W .any base t v)
    (hW : DataW.Whole enc Try.prog Try.f5.params.toList Rows.splitBoundsSpec.vars false W args.toList ds gs before)
    (hsz0 : (DataW.weightsEach Try.prog (Try.f5.params.toList ++ Rows.splitBoundsSpec.plain.varTypes Try.prog) (ds ++ gs)).all (· ≤ reachBytes) = true) :
    Calls Try.prog 5 args W fun e W' => ∃ v, e = .returned v ∧ Rows.splitBoundsSpec.post enc Try.prog Try.f5 false true false false W args v W' := by
  have hW' := hW
  obtain ⟨p, q, hA0, hV, rfl, hfz, hnd⟩ := hW
  have hA : DataW.TrodAll enc Try.prog W 0 (fun _ => true) true Try.f5.params.toList args.toList ds p := hA0
  have hsz := hsz0
  rw [Try.params5] at hA hval hsz
  obtain ⟨v0, vs0, d0, ds0, p0, q0, hargs, rfl, rfl, h0, r0⟩ := trodAll_cons hA
  obtain ⟨v1, vs1, d1, ds1, p1, q1, rfl, rfl, rfl, h1, r1⟩ := trodAll_cons r0
  obtain ⟨rfl, rfl, rfl⟩ := trodAll_nil r1
  obtain rfl : args = #[v0, v1] := by cases args; simp_all
  obtain ⟨rfl, rfl⟩ := trodVars_none hV
  have k0 := h0
  have lt0 : ∀ x ∈ p0, x.block < W.heap.size := by obtain ⟨m, hm⟩ := k0; exact DataW.trod_lt m _ _ _ hm
  have sz0 : (d0.weights Try.prog 23).all (· ≤ reachBytes) = true := List.all_eq_true.2 fun m hm => List.all_eq_true.1 hsz m (DataW.weights_mem_each (j := 0) rfl rfl m hm)
  obtain ⟨q0, rfl, w0⟩ : ∃ q, v0 = .agg ((fun q : Int × Int × Int => [.int .i64 q.1, .int .i64 q.2.1, .int .i64 q.2.2]) q).toArray ∧ (fun q => (Lit.int .i64 q.1).wf = true ∧ (Lit.int .i64 q.2.1).wf = true ∧ (Lit.int .i64 q.2.2).wf = true) q := by
    obtain ⟨fuel, hf⟩ := h0
    exact Ag.one_arg kd23 Try.underlying23 (hval 0 23 v0 rfl rfl) hf sz0
  obtain ⟨a1, len1, cap1, rfl⟩ := okWide_slice Try.underlying44 (hval 1 44 v1 rfl rfl)
  have k1 := h1
  have lt1 : ∀ x ∈ p1, x.block < W.heap.size := by obtain ⟨m, hm⟩ := k1; exact DataW.trod_lt m _ _ _ hm
  have sz1 : (d1.weights Try.prog 44).all (· ≤ reachBytes) = true := List.all_eq_true.2 fun m hm => List.all_eq_true.1 hsz m (DataW.weights_mem_each (j := 1) rfl rfl m hm)
  obtain ⟨z1, w1, s1⟩ : ∃ zs, Ag.Rows (fun q : Int × Int => [.int .i64 q.1, .int .i64 q.2]) (fun q => (Lit.int .i64 q.1).wf = true ∧ (Lit.int .i64 q.2).wf = true) 2 W a1 len1 zs ∧ len1 ≤ cap1 ∧ cap1 * Try.prog.bytesOf 46 ≤ 140737488351232 ∧ (a1 = none → len1 = 0 ∧ cap1 = 0) := by
    obtain ⟨fuel, hf⟩ := h1
    exact Ag.rows_arg kd46 Try.underlying44 (Nat.le_of_ble_eq_true (by kernel_rfl)) hf sz1
  clear hA0 hsz0 hsz
  refine (walk q0 a1 len1 cap1 z1 W w0 w1 s1).mono fun e W' ⟨he, bel⟩ => ?_
  subst he
  exact ⟨_, rfl, _, _, _, [], _, [], hW', trodAll_mk1 (shut_bool Try.underlying4 _), (trodAll_cons_mk (Below.trod laidOut (by kernel_rfl) (of_decide_eq_true (by kernel_rfl)) k0 bel lt0) (trodAll_cons_mk (Below.trod laidOut (by kernel_rfl) (of_decide_eq_true (by kernel_rfl)) k1 bel lt1) trodAll_mk0)), rfl, bel.frame _, fun h => by cases h⟩

noncomputable def laidWorld (os : Os) : World :=
  World.holding Try.prog os ⟨#[], #[], []⟩
theorem laid_met (os : Os) : laidMet Try.prog Rows.splitBoundsRow.laid ((laidWorld os).forCall (fun _ _ => 0) ⟨#[], #[.agg #[.int .i64 0, .int .i64 0, .int .i64 0], .slice none 0 0], []⟩).memory :=
  laidMet_of_run' 8 (by kernel_rfl) (by kernel_rfl)
theorem reads (os : Os) {H : Type} (enc : TypeId × Value → H) : ∃ places, DataW.whole enc Try.prog ((laidWorld os).forCall (fun _ _ => 0) ⟨#[], #[.agg #[.int .i64 0, .int .i64 0, .int .i64 0], .slice none 0 0], []⟩).memory Try.f5.params.toList Rows.splitBoundsSpec.vars false #[Value.agg #[.int .i64 0, .int .i64 0, .int .i64 0], Value.slice none 0 0].toList 8 = some ([.agg [.lit (.int .i64 0), .lit (.int .i64 0), .lit (.int .i64 0)], .nil], [], places) :=
  ⟨[], by kernel_rfl⟩

set_option maxRecDepth 100000 in
theorem lifted (os : Os) (started : os.Started) (H : Type) (enc : TypeId × Value → H) (F : Stop.Interp) :
    ReturnsInHanded {} Try.checked os 5 .any ((OpenSpec.ofChange Rows.splitBoundsSpec).preRow enc Try.prog Try.f5 Rows.splitBoundsRow.domain false Rows.splitBoundsRow.laid) (((OpenSpec.ofChange Rows.splitBoundsSpec).at F).post enc Try.prog Try.f5 false true false false) := by
  obtain ⟨places, hx⟩ := reads os enc
  refine returnsInHanded_of_row (C := Try.checked) (s := OpenSpec.ofChange Rows.splitBoundsSpec) own started (by kernel_rfl) Try.func5
    (witness_row_at (enc := enc) (C := Try.checked) false (laidWorld os) #[.agg #[.int .i64 0, .int .i64 0, .int .i64 0], .slice none 0 0] rfl (by kernel_rfl) (by kernel_rfl) (by kernel_rfl)
      (OpenSpec.preRow_of_cond 8 hx (by kernel_rfl) (fun k hk => by cases hk) (by kernel_rfl) (laid_met os))) ?_
  intro W base args ds gs before hval hW _ hcond hsz hL _ _
  exact contract H enc W base args ds gs before hval hW hsz

theorem said : Rows.SplitBoundsSaid :=
  OpenClaim.holds_of_cond 5 Try.f5 rfl rfl rfl rfl rfl rfl rfl ⟨rfl, rfl, rfl, rfl, rfl⟩ rfl rfl rfl rfl rfl (by kernel_rfl) Try.func5 (by kernel_rfl)
    (of_decide_eq_true (by kernel_rfl)) (by unfold Func.isWrapper; first | (rw [if_pos (by decide +kernel)]; kernel_rfl) | (rw [if_neg (by decide +kernel)]; exact ⟨rfl, rfl⟩))
    (fun os started H enc _ F => by rw [OpenClaim.pre_eq_preRow]; exact lifted os started H enc F)

/-- THE STATEMENT -/
theorem proved : Rows.SplitBoundsSaid := said
#print axioms proved
end Go.Proofs.Ytbnmcjajhcgcnaa.splitBounds
