/-
  What SchedRounds says of every call is true: by turns, told again and again with what was told at last, each path that is fit comes once in as many turns as there are fit paths (P18.4). Conditions: none.
-/
import Derived.Test.YtcflcibncbipbaaRows
import Derived.WalkKit
import Derived.ProofKit
import Derived.OpenShut
import Derived.ShutString
import Derived.ChangeOld
import Derived.Below
import Derived.SizedLaws
import Derived.Deep.DeepHandedRow
import Derived.LaidLaws
import Derived.ChangeMaps5
import Derived.Test.YtcflcibncbipbaaScT
import Derived.Test.YtcflcibncbipbaaAg
namespace Go.Proofs.Ytcflcibncbipbaa.schedRounds
open Go.ChangeShapes Go.WideShapes Go.ChangeAt Go.RowKit
open Go.ChangeMaps (open_string shut_string)
set_option linter.unusedVariables false

theorem own : ownKnob Try.prog.godebug = none := by kernel_rfl
theorem laidOut : laidOutB Try.prog = true := by kernel_rfl

theorem kd42 : Ag.Kind Try.prog 42 4 (fun q : Int × Int × Int × Bool => [.int .i64 q.1, .int .i64 q.2.1, .int .i64 q.2.2.1, .bool q.2.2.2]) (fun q => (Lit.int .i64 q.1).wf = true ∧ (Lit.int .i64 q.2.1).wf = true ∧ (Lit.int .i64 q.2.2.1).wf = true) := by
  refine ⟨by kernel_rfl, by decide, fun _ => rfl, fun {H enc W base held fuel cl x} h _ => ?_⟩
  obtain ⟨xs, n, _, _, hcl, hxl, hfield⟩ := DataW.trod_struct Try.underlying42 h
  rw [show Try.prog.cellsOf 42 = 4 by kernel_rfl] at hcl
  match cl, hcl with
  | [v0, v1, v2, v3], _ =>
    match xs, hxl with
    | [y0, y1, y2, y3], _ =>
      have g0 := hfield 0 _ rfl
      simp [show Try.prog.cellsOf 40 = 1 by kernel_rfl] at g0
      obtain ⟨n0, e0, _, w0⟩ := DataW.trod_int Try.underlying40 g0
      simp at e0
      subst e0
      have g1 := hfield 1 _ rfl
      simp [show Try.prog.cellsOf 3 = 1 by kernel_rfl] at g1
      obtain ⟨n1, e1, _, w1⟩ := DataW.trod_int Try.underlying3 g1
      simp at e1
      subst e1
      have g2 := hfield 2 _ rfl
      simp [show Try.prog.cellsOf 3 = 1 by kernel_rfl] at g2
      obtain ⟨n2, e2, _, w2⟩ := DataW.trod_int Try.underlying3 g2
      simp at e2
      subst e2
      have g3 := hfield 3 _ rfl
      simp [show Try.prog.cellsOf 4 = 1 by kernel_rfl] at g3
      obtain ⟨n3, e3, _⟩ := DataW.trod_bool Try.underlying4 g3
      simp at e3
      subst e3
      exact ⟨(n0, n1, n2, n3), rfl, w0, w1, w2⟩
open Ba (hidden Has Only)
open Ow (Own)
open Sc
set_option maxHeartbeats 4000000 in
set_option maxRecDepth 20000 in

theorem walk (a0 : Int) (a1 : Option Addr) (len1 cap1 : Nat) (z1 : List (Int × Int × Int × Bool)) (w : World) (w0 : (Lit.int .i64 a0).wf = true) (w1 : Ag.Rows (fun q : Int × Int × Int × Bool => [.int .i64 q.1, .int .i64 q.2.1, .int .i64 q.2.2.1, .bool q.2.2.2]) (fun q => (Lit.int .i64 q.1).wf = true ∧ (Lit.int .i64 q.2.1).wf = true ∧ (Lit.int .i64 q.2.2.1).wf = true) 4 w a1 len1 z1) (s1 : len1 ≤ cap1 ∧ cap1 * Try.prog.bytesOf 42 ≤ 140737488351232 ∧ (a1 = none → len1 = 0 ∧ cap1 = 0)) :
    Calls Try.prog 6 #[.int .i64 a0, .slice a1 len1 cap1] w fun e w' => e = .returned (.bool true) ∧ Below w.heap.size w w' := by
  have AW := hidden Sc.awake
  have L : Hid (∀ X, Below w.heap.size w X → Calls Try.prog 14 #[.slice a1 len1 cap1] X fun e w' => e = .returned (.int .i64 (chk z1)) ∧ Below X.heap.size X w') := fun X hX => rcheck (w1.later hX)
  have hl : z1.length = len1 := w1.1
  by_cases hc : chk z1 = 0
  · rw [hc] at L
    obtain ⟨h8, hv⟩ := chk_0 hc
    obtain ⟨f1, f2, f3⟩ := fit_wf z1
    have A : Hid (∀ X, Below w.heap.size w X → ∀ last : Int, Calls Try.prog 10 #[.int .i64 0, .int .i64 last, .slice a1 len1 cap1] X fun e w' => e = .returned (.tuple #[.int .i64 (nV 0 last z1), .bool (nB 0 last z1), .int .i64 (oE 0 z1)]) ∧ Below X.heap.size X w') := fun X hX last => next (w1.later hX) 0 last
    have FT : Hid (∀ X, Below w.heap.size w X → Calls Try.prog 18 #[.slice a1 len1 cap1] X fun e w' => ∃ v k, e = .returned v ∧ w'.ownsRow X.heap.size 3 1 v k (lc (rfit z1)) ∧ Below X.heap.size X w') := fun X hX => rfit_ (w1.later hX) (by omega)
    rw [fit_eq hv] at FT
    have TF : Hid (fit z1 ≠ [] → ∃ j, j < (fit z1).length ∧ ∀ k last, LastAt (fit z1) j k a0 last → ∃ x, (fit z1)[(j + k) % (fit z1).length]? = some x ∧ nV 0 last z1 = x ∧ nB 0 last z1 = true ∧ oE 0 z1 = 0) := turn_first hc a0
    have hn8 : len1 ≤ 8 := by omega
    have FW : Hid ((fit z1).Pairwise (· < ·) ∧ (∀ x ∈ fit z1, 0 ≤ x ∧ x < len1) ∧ (fit z1).length ≤ 8) := ⟨f1, fun x hx => by have := f2 x hx; omega, by omega⟩
    generalize fit z1 = F at *
    clear w0 w1 s1 hc hl h8 hv f1 f2 f3
    go_enter Try.func6, Try.ntmps6
    go_wp2_with fail
    refine Calls.mono (AW.out _) ?_
    rintro e x1 ⟨rfl, hB⟩
    have HB1 := hidden hB
    clear hB AW
    go_wp2_with fail
    refine Calls.mono (L.out _ HB1.out) ?_
    rintro e x2 ⟨rfl, hB⟩
    have HB2 := hidden (HB1.out.trans (hB.mono HB1.out.size))
    clear hB L
    go_wp2_with fail
    refine Calls.mono (FT.out _ HB2.out) ?_
    rintro e x3 ⟨vf, kf, rfl, hown, hB⟩
    have hlf : F.length = kf := by have := hown.1; rw [lc_len] at this; omega
    obtain ⟨af, cf, e, NF⟩ := Nu.own hown (fun x hx => wf_in (by have := FW.out.2.1 x hx; omega)) (by have := FW.out.2.2; omega)
    subst e
    have NF := hidden NF
    have HLF := hidden hlf
    have hkf : kf ≤ 8 := by have := FW.out.2.2; omega
    have HB3 := hidden (HB2.out.trans (hB.mono HB2.out.size))
    clear hB FT hown hlf
    obtain ⟨x4, mk, hs, hb4⟩ := make_zeros len1 hn8 x3
    have HB4 := hidden (HB3.out.trans (hb4.mono HB3.out.size))
    have HS := hidden hs
    have HF4 := hidden hb4
    clear hs hb4
    go_wp2_with fail
    obtain ⟨j0, HJ⟩ : ∃ j0, Hid (∀ k last, k < kf → LastAt F j0 k a0 last → ∃ x, F[(j0 + k) % F.length]? = some x ∧ nV 0 last z1 = x ∧ nB 0 last z1 = true ∧ oE 0 z1 = 0) ∧ Hid (0 < kf → j0 < F.length) := by
      by_cases hF : F = []
      · exact ⟨0, fun k last hk => by have := HLF.out; rw [hF] at this; simp at this; omega, fun hk => by have := HLF.out; rw [hF] at this; simp at this; omega⟩
      · obtain ⟨j, hj, ht⟩ := TF.out hF
        exact ⟨j, fun k last _ hl => ht k last hl, fun _ => hj⟩
    obtain ⟨HJ, HJ2⟩ := HJ
    clear TF
    have sbl : x3.heap.size < x4.heap.size := HS.out.lt
    go_loopw [0, 7] (fun la i wr => ∃ (k : Nat) (last : Int) (S : List Int), k ≤ kf ∧ i = .int .i64 (k : Int) ∧ la = .int .i64 last ∧ Hid (LastAt F j0 k a0 last) ∧ Hid (Turns F j0 k len1 S) ∧ Hid (Has wr x3.heap.size (lc S).toArray 3) ∧ Hid (Below x3.heap.size x3 wr)) (fun _ i _ => kf - (intOf i).toNat)
    case atStart => exact ⟨0, a0, List.replicate len1 0, by omega, rfl, rfl, .inl ⟨rfl, rfl⟩, Turns.first FW.out.2.1, HS.out, HF4.out⟩
    case round =>
      clear HS HF4 mk HB4
      obtain ⟨k, last, S, j2, rfl, rfl, HLA, HT, HS, HBR⟩ := hrel
      by_cases hk : k < kf
      · have hkz : (k : Int) < (kf : Int) := by omega
        obtain ⟨x, hx, e1, e2, e3⟩ := HJ.out k last hk HLA.out
        have xin := FW.out.2.1 x (List.mem_of_getElem? hx)
        have hj0 := HJ2.out (by omega)
        have hkF : k < F.length := by have := HLF.out; omega
        obtain ⟨s0, HT2⟩ := HT.out.next hj0 hkF FW.out.1 FW.out.2.1 hx
        have HT2 := hidden HT2
        have AX := hidden (A.out wr (HB3.out.trans (HBR.out.mono HB3.out.size)) last)
        rw [e1, e2, e3] at AX
        have LA2 : Hid (LastAt F j0 (k + 1) a0 x) := .inr ⟨k, rfl, hx⟩
        have nx0 : ¬ x < 0 := by omega
        have nx1 : ¬ x ≥ (len1 : Int) := by omega
        have nx2 : x < (len1 : Int) := by omega
        have nx3 : 0 ≤ x := by omega
        clear hx e1 e2 e3 xin hj0 hkF
        go_wp2_with fail
        refine Calls.mono AX.out ?_
        rintro e y1 ⟨rfl, hB⟩
        have HS1 := hidden (HS.out.later hB)
        have HBy := hidden (HBR.out.trans (hB.mono HBR.out.size))
        clear hB AX
        have d0 := seen_cell HS1.out s0
        have d1 := HS1.out.frozen x.toNat
        have d2 := HS1.out.lt
        have HS2 := hidden (seen_set HS1.out x.toNat 1)
        have HB2y : Hid (Below x3.heap.size x3 (y1.setCell ⟨x3.heap.size, x.toNat, none⟩ (.int .i64 1))) := HBy.out.trans ((Only.setCell (F := [x3.heap.size]) y1 (by simp) _).below HBy.out.size (by simp))
        clear s0
        go_wp2
        go_roundw
        case rel => exact ⟨k + 1, x, S.set x.toNat 1, by omega, by first | rfl | simp, rfl, LA2.out, HT2.out, HS2.out, HB2y.out⟩
        case measure => simp [intOf]; omega
      · obtain rfl : k = kf := by omega
        have HTF : Hid (∀ (i : Nat) (y : Int), F[i]? = some y → S[y.toNat]? = some 1) := fun i y hy => by
          have := HT.out
          rw [← HLF.out] at this
          exact this.last hy
        clear HT HLA
        go_wp2_with fail
        go_loopw [11] (fun i wr2 => ∃ q : Nat, q ≤ k ∧ i = .int .i64 (q : Int) ∧ wr = wr2) (fun i _ => k - (intOf i).toNat)
        case atStart => exact ⟨0, by omega, rfl, rfl⟩
        case round =>
          obtain ⟨q, q2, rfl, rfl⟩ := hrel
          by_cases hq : q < k
          · have hqz : (q : Int) < (k : Int) := by omega
            obtain ⟨b, off, rfl, hb⟩ := Nu.open NF.out (by omega)
            obtain ⟨y, hy, dy⟩ := Nu.get (NF.out.later HBR.out) (q := q) hq
            have yin := FW.out.2.1 y (List.mem_of_getElem? hy)
            have ds := seen_cell HS.out (HTF.out q y hy)
            have hbl := Nat.lt_of_lt_of_le hb HBR.out.size
            have hsl := HS.out.lt
            have y0 : 0 ≤ y := yin.1
            have y1 : y < (len1 : Int) := yin.2
            clear hy yin
            go_wp2
            go_roundw
            case rel => exact ⟨q + 1, by omega, by first | rfl | simp, by first | rfl | trivial⟩
            case measure => simp [intOf]; omega
          · obtain rfl : q = k := by omega
            go_wp2
            go_ret
            exact ⟨rfl, HB3.out.trans (HBR.out.mono HB3.out.size)⟩
  · have K : Hid (∀ X, Below w.heap.size w X → Calls Try.prog 13 #[.slice a1 len1 cap1] X fun e w' => e = .returned (.int .i64 (chk z1)) ∧ Below X.heap.size X w') := fun X hX => check (w1.later hX)
    generalize chk z1 = C at *
    clear w0 w1 s1 hl
    go_enter Try.func6, Try.ntmps6
    go_wp2_with fail
    refine Calls.mono (AW.out _) ?_
    rintro e x1 ⟨rfl, hB⟩
    have HB1 := hidden hB
    clear hB AW
    go_wp2_with fail
    refine Calls.mono (L.out _ HB1.out) ?_
    rintro e x2 ⟨rfl, hB⟩
    have HB2 := hidden (HB1.out.trans (hB.mono HB1.out.size))
    clear hB
    go_wp2_with fail
    refine Calls.mono (K.out _ HB2.out) ?_
    rintro e x3 ⟨rfl, hB⟩
    have HB3 := hidden (HB2.out.trans (hB.mono HB2.out.size))
    clear hB K
    go_wp2_with fail
    refine Calls.mono (L.out _ HB3.out) ?_
    rintro e x4 ⟨rfl, hB⟩
    have HB4 := hidden (HB3.out.trans (hB.mono HB3.out.size))
    clear hB L
    go_wp2
    go_ret
    exact ⟨rfl, HB4.out⟩

theorem contract (H : Type) (enc : TypeId × Value → H) (W : World) (base : Nat) (args : Array Value) (ds gs : List (DataW H)) (before : List MemPlace)
    (hval : ∀ (j : Nat) t v, Try.f6.params[j]? = some t → args[j]? = some v → Value.okWide Try.prog W .any base t v)
    (hW : DataW.Whole enc Try.prog Try.f6.params.toList Rows.schedRoundsSpec.vars false W args.toList ds gs before)
    (hsz0 : (DataW.weightsEach Try.prog (Try.f6.params.toList ++ Rows.schedRoundsSpec.plain.varTypes Try.prog) (ds ++ gs)).all (· ≤ reachBytes) = true) :
    Calls Try.prog 6 args W fun e W' => ∃ v, e = .returned v ∧ Rows.schedRoundsSpec.post enc Try.prog Try.f6 false true false false W args v W' := by
  have hW' := hW
  obtain ⟨p, q, hA0, hV, rfl, hfz, hnd⟩ := hW
  have hA : DataW.TrodAll enc Try.prog W 0 (fun _ => true) true Try.f6.params.toList args.toList ds p := hA0
  have hsz := hsz0
  rw [Try.params6] at hA hval hsz
  obtain ⟨v0, vs0, d0, ds0, p0, q0, hargs, rfl, rfl, h0, r0⟩ := trodAll_cons hA
  obtain ⟨v1, vs1, d1, ds1, p1, q1, rfl, rfl, rfl, h1, r1⟩ := trodAll_cons r0
  obtain ⟨rfl, rfl, rfl⟩ := trodAll_nil r1
  obtain rfl : args = #[v0, v1] := by cases args; simp_all
  obtain ⟨rfl, rfl⟩ := trodVars_none hV
  obtain ⟨a0, rfl, rfl, rfl, w0⟩ := open_int Try.underlying3 (hval 0 3 v0 rfl rfl) h0
  obtain ⟨a1, len1, cap1, rfl⟩ := okWide_slice Try.underlying22 (hval 1 22 v1 rfl rfl)
  have k1 := h1
  have lt1 : ∀ x ∈ p1, x.block < W.heap.size := by obtain ⟨m, hm⟩ := k1; exact DataW.trod_lt m _ _ _ hm
  have sz1 : (d1.weights Try.prog 22).all (· ≤ reachBytes) = true := List.all_eq_true.2 fun m hm => List.all_eq_true.1 hsz m (DataW.weights_mem_each (j := 1) rfl rfl m hm)
  obtain ⟨z1, w1, s1⟩ : ∃ zs, Ag.Rows (fun q : Int × Int × Int × Bool => [.int .i64 q.1, .int .i64 q.2.1, .int .i64 q.2.2.1, .bool q.2.2.2]) (fun q => (Lit.int .i64 q.1).wf = true ∧ (Lit.int .i64 q.2.1).wf = true ∧ (Lit.int .i64 q.2.2.1).wf = true) 4 W a1 len1 zs ∧ len1 ≤ cap1 ∧ cap1 * Try.prog.bytesOf 42 ≤ 140737488351232 ∧ (a1 = none → len1 = 0 ∧ cap1 = 0) := by
    obtain ⟨fuel, hf⟩ := h1
    exact Ag.rows_arg kd42 Try.underlying22 (Nat.le_of_ble_eq_true (by kernel_rfl)) hf sz1
  clear hA0 hsz0 hsz
  refine (walk a0 a1 len1 cap1 z1 W w0 w1 s1).mono fun e W' ⟨he, bel⟩ => ?_
  subst he
  exact ⟨_, rfl, _, _, _, [], _, [], hW', trodAll_mk1 (shut_bool Try.underlying4 _), (trodAll_cons_mk (shut_int Try.underlying3 w0) (trodAll_cons_mk (Below.trod laidOut (by kernel_rfl) (of_decide_eq_true (by kernel_rfl)) k1 bel lt1) trodAll_mk0)), rfl, bel.frame _, fun h => by cases h⟩

noncomputable def laidWorld (os : Os) : World :=
  World.holding Try.prog os ⟨#[], #[], []⟩
theorem laid_met (os : Os) : laidMet Try.prog Rows.schedRoundsRow.laid ((laidWorld os).forCall (fun _ _ => 0) ⟨#[], #[.int .i64 0, .slice none 0 0], []⟩).memory :=
  laidMet_of_run' 8 (by kernel_rfl) (by kernel_rfl)
theorem reads (os : Os) {H : Type} (enc : TypeId × Value → H) : ∃ places, DataW.whole enc Try.prog ((laidWorld os).forCall (fun _ _ => 0) ⟨#[], #[.int .i64 0, .slice none 0 0], []⟩).memory Try.f6.params.toList Rows.schedRoundsSpec.vars false #[Value.int .i64 0, Value.slice none 0 0].toList 8 = some ([.lit (.int .i64 0), .nil], [], places) :=
  ⟨[], by kernel_rfl⟩

set_option maxRecDepth 100000 in
theorem lifted (os : Os) (started : os.Started) (H : Type) (enc : TypeId × Value → H) (F : Stop.Interp) :
    ReturnsInHanded {} Try.checked os 6 .any ((OpenSpec.ofChange Rows.schedRoundsSpec).preRow enc Try.prog Try.f6 Rows.schedRoundsRow.domain false Rows.schedRoundsRow.laid) (((OpenSpec.ofChange Rows.schedRoundsSpec).at F).post enc Try.prog Try.f6 false true false false) := by
  obtain ⟨places, hx⟩ := reads os enc
  refine returnsInHanded_of_row (C := Try.checked) (s := OpenSpec.ofChange Rows.schedRoundsSpec) own started (by kernel_rfl) Try.func6
    (witness_row_at (enc := enc) (C := Try.checked) false (laidWorld os) #[.int .i64 0, .slice none 0 0] rfl (by kernel_rfl) (by kernel_rfl) (by kernel_rfl)
      (OpenSpec.preRow_of_cond 8 hx (by kernel_rfl) (fun k hk => by cases hk) (by kernel_rfl) (laid_met os))) ?_
  intro W base args ds gs before hval hW _ hcond hsz hL _ _
  exact contract H enc W base args ds gs before hval hW hsz

theorem said : Rows.SchedRoundsSaid :=
  OpenClaim.holds_of_cond 6 Try.f6 rfl rfl rfl rfl rfl rfl rfl ⟨rfl, rfl, rfl, rfl, rfl⟩ rfl rfl rfl rfl rfl (by kernel_rfl) Try.func6 (by kernel_rfl)
    (of_decide_eq_true (by kernel_rfl)) (by unfold Func.isWrapper; first | (rw [if_pos (by decide +kernel)]; kernel_rfl) | (rw [if_neg (by decide +kernel)]; exact ⟨rfl, rfl⟩))
    (fun os started H enc _ F => by rw [OpenClaim.pre_eq_preRow]; exact lifted os started H enc F)

/-- THE STATEMENT -/
theorem proved : Rows.SchedRoundsSaid := said
#print axioms proved
end Go.Proofs.Ytcflcibncbipbaa.schedRounds
