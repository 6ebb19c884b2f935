/-
  What CoupleAll says of every call is true: all shares of a number are together at most that number, and above it less how many paths there are; paths with the same threshold have the same shares (P13.6, P13.7). Conditions: none.
-/
import Derived.Test.YtbcdoilfmfckiaaRows
import Derived.WalkKit
import Derived.ProofKit
import Derived.OpenShut
import Derived.ShutString
import Derived.ChangeOld
import Derived.Below
import Derived.SizedLaws
import Derived.Deep.DeepHandedRow
import Derived.LaidLaws
import Derived.ChangeMaps5
import Derived.Test.YtbcdoilfmfckiaaCoR
import Derived.Test.YtbcdoilfmfckiaaCoG
import Derived.Test.YtbcdoilfmfckiaaAg
namespace Go.Proofs.Ytbcdoilfmfckiaa.coupleAll
open Go.ChangeShapes Go.WideShapes Go.ChangeAt Go.RowKit
open Go.ChangeMaps (open_string shut_string)
set_option linter.unusedVariables false

theorem own : ownKnob Try.prog.godebug = none := by kernel_rfl
theorem laidOut : laidOutB Try.prog = true := by kernel_rfl

theorem kd43 : Ag.Kind Try.prog 43 2 (fun q : Int × Int => [.int .i64 q.1, .int .i64 q.2]) (fun q => (Lit.int .i64 q.1).wf = true ∧ (Lit.int .i64 q.2).wf = true) := by
  refine ⟨by kernel_rfl, by decide, fun _ => rfl, fun {H enc W base held fuel cl x} h _ => ?_⟩
  obtain ⟨xs, n, _, _, hcl, hxl, hfield⟩ := DataW.trod_struct Try.underlying43 h
  rw [show Try.prog.cellsOf 43 = 2 by kernel_rfl] at hcl
  match cl, hcl with
  | [v0, v1], _ =>
    match xs, hxl with
    | [y0, y1], _ =>
      have g0 := hfield 0 _ rfl
      simp [show Try.prog.cellsOf 3 = 1 by kernel_rfl] at g0
      obtain ⟨n0, e0, _, w0⟩ := DataW.trod_int Try.underlying3 g0
      simp at e0
      subst e0
      have g1 := hfield 1 _ rfl
      simp [show Try.prog.cellsOf 3 = 1 by kernel_rfl] at g1
      obtain ⟨n1, e1, _, w1⟩ := DataW.trod_int Try.underlying3 g1
      simp at e1
      subst e1
      exact ⟨(n0, n1), rfl, w0, w1⟩
open Ba (hidden Has)
open Ow (Own)
open Co
theorem below_drewN {n : Nat} {w w1 : World} (h : Below n w w1) (k : Nat) : Below n w (w1.drewN k) := ⟨h.os, h.tape, h.output, h.size, h.block⟩
/-- all shares of the first ones -/
def al (zs : List Fw) (n : Int) : Nat → Int
  | 0 => 0
  | q + 1 => al zs n q + share zs q n
theorem al_in {zs : List Fw} {n : Int} (hg : ∀ z ∈ zs, good z) (hS : 0 < sumT zs) (hn : 0 ≤ n) : ∀ q : Nat, q ≤ zs.length → al zs n q * sumT zs ≤ n * sT zs q ∧ n * sT zs q ≤ al zs n q * sumT zs + q * (sumT zs - 1)
  | 0, _ => by simp [al, sT]
  | q + 1, h => by
    obtain ⟨h1, h2⟩ := al_in hg hS hn q (by omega)
    obtain ⟨c, t, hz⟩ := get_ (zs := zs) (q := q) (by omega)
    have h5 := Int.ediv_mul_le (n * t) (b := sumT zs) (by omega)
    have h6 := Int.lt_ediv_add_one_mul_self (n * t) hS
    simp only [al, share_at hz]
    rw [sT_next hz, Int.add_mul, Int.mul_add]
    rw [Int.add_mul, Int.one_mul] at h6
    rw [show ((q + 1 : Nat) : Int) * (sumT zs - 1) = q * (sumT zs - 1) + (sumT zs - 1) by rw [Int.natCast_add, Int.add_mul]; simp]
    omega
theorem al_all {zs : List Fw} {n : Int} (hg : ∀ z ∈ zs, good z) (h1 : 1 ≤ zs.length) (hn : 0 ≤ n) : al zs n zs.length ≤ n ∧ n - zs.length < al zs n zs.length := by
  have hS : 0 < sumT zs := by
    have := (sT_in hg zs.length (Nat.le_refl _)).1
    unfold sumT
    omega
  obtain ⟨g1, g2⟩ := al_in hg hS hn zs.length (Nat.le_refl _)
  refine ⟨Int.le_of_mul_le_mul_right g1 hS, ?_⟩
  have g3 : n * sumT zs ≤ al zs n zs.length * sumT zs + zs.length * (sumT zs - 1) := g2
  refine Int.lt_of_mul_lt_mul_right (a := sumT zs) ?_ (Int.le_of_lt hS)
  rw [Int.sub_mul]
  rw [Int.mul_sub, Int.mul_one] at g3
  omega
theorem al_up {zs : List Fw} {n : Int} (hg : ∀ z ∈ zs, good z) (hn : 0 ≤ n) : ∀ q p : Nat, q + p ≤ zs.length → al zs n q ≤ al zs n (q + p)
  | q, 0, _ => Int.le_refl _
  | q, p + 1, h => by
    have := al_up hg hn q p (by omega)
    have := share_in hg (j := q + p) (by omega) hn
    rw [show q + (p + 1) = q + p + 1 by omega]
    simp only [al]
    omega
theorem al_mid {zs : List Fw} {n : Int} (hg : ∀ z ∈ zs, good z) (h1 : 1 ≤ zs.length) (hn : 0 ≤ n) {q : Nat} (hq : q ≤ zs.length) : 0 ≤ al zs n q ∧ al zs n q ≤ n := by
  have h1' := al_up hg hn q (zs.length - q) (by omega)
  have h2 := al_up hg hn 0 q (by omega)
  rw [show q + (zs.length - q) = zs.length by omega] at h1'
  rw [Nat.zero_add] at h2
  have := (al_all hg h1 hn).1
  exact ⟨h2, by omega⟩
set_option maxHeartbeats 4000000 in
set_option maxRecDepth 20000 in

theorem walk (a0 : Option Addr) (len0 cap0 : Nat) (z0 : List (Int × Int)) (a1 : Int) (w : World) (w0 : Ag.Rows (fun q : Int × Int => [.int .i64 q.1, .int .i64 q.2]) (fun q => (Lit.int .i64 q.1).wf = true ∧ (Lit.int .i64 q.2).wf = true) 2 w a0 len0 z0) (s0 : len0 ≤ cap0 ∧ cap0 * Try.prog.bytesOf 43 ≤ 140737488351232 ∧ (a0 = none → len0 = 0 ∧ cap0 = 0)) (w1 : (Lit.int .i64 a1).wf = true) :
    Calls Try.prog 8 #[.slice a0 len0 cap0, .int .i64 a1] w fun e w' => e = .returned (.bool true) ∧ Below w.heap.size w w' := by
  have AW := hidden Co.alive
  have hl := w0.1
  have hn : len0 ≤ 140737488355328 := w0.2.2.1
  have CK := hidden (rCheck (cap := cap0) w0 1)
  clear w1 s0
  by_cases hk : okF z0 1
  · rw [chk_ok hk] at CK
    by_cases ho : 0 ≤ a1 ∧ a1 ≤ 1073741824
    · have h8 : len0 ≤ 8 := by rw [← hl]; exact hk.1.2
      have h1 : 1 ≤ len0 := by rw [← hl]; exact hk.1.1
      have SH : Hid (∀ X, Below w.heap.size w X → ∀ i : Int, 0 ≤ i ∧ i < len0 → Calls Try.prog 9 #[.slice a0 len0 cap0, .int .i64 i, .int .i64 a1] X fun e w' => e = .returned (.tuple #[.int .i64 (share z0 i.toNat a1), .int .i64 0]) ∧ Below X.heap.size X w') := fun X hX i hi => by
        have := shareX (cap := cap0) (w0.later hX) i a1
        rw [er_ok hk (by rw [hl]; exact hi) ho, va_0] at this
        exact this
      have HIN : Hid (∀ q : Int, 0 ≤ q → q < len0 → (0 ≤ share z0 q.toNat a1 ∧ share z0 q.toNat a1 ≤ 1073741824) ∧ (0 ≤ al z0 a1 q.toNat ∧ al z0 a1 q.toNat ≤ 1073741824) ∧ al z0 a1 q.toNat + share z0 q.toNat a1 = al z0 a1 (q + 1).toNat) := fun q q1 q2 => by
        have h3 := share_in hk.2.2 (j := q.toNat) (by omega) ho.1
        have h4 := al_mid hk.2.2 hk.1.1 ho.1 (q := q.toNat) (by omega)
        refine ⟨by omega, by omega, ?_⟩
        rw [show (q + 1).toNat = q.toNat + 1 by omega]
        rfl
      have HE : Hid (al z0 a1 len0 ≤ a1 ∧ a1 - len0 < al z0 a1 len0) := by
        show al z0 a1 len0 ≤ a1 ∧ a1 - len0 < al z0 a1 len0
        rw [← hl]
        exact al_all hk.2.2 hk.1.1 ho.1
      obtain ⟨ho1, ho2⟩ := ho
      have HZ := hidden w0
      obtain ⟨b, off, rfl, hb⟩ := Fl.open w0 (by omega)
      clear w0 hk hl
      go_enter Try.func8, Try.ntmps8
      go_wp2_with fail
      refine Calls.mono CK.out ?_
      rintro e w1 ⟨rfl, hB⟩
      have HB1 := hidden hB
      clear hB CK
      go_wp2_with fail
      go_loopw [5, 6] (fun s i wr => ∃ q x : Int, 0 ≤ q ∧ q ≤ (len0 : Int) ∧ i = .int .i64 q ∧ s = .int .i64 x ∧ Hid (x = al z0 a1 q.toNat) ∧ Hid (Below w.heap.size w wr)) (fun _ i _ => len0 - (intOf i).toNat)
      case atStart => exact ⟨0, 0, by omega, by omega, rfl, rfl, rfl, HB1.out⟩
      case round =>
        clear HB1
        obtain ⟨q, x, j1, j2, rfl, rfl, HX, HR⟩ := hrel
        by_cases hq : q < (len0 : Int)
        · obtain ⟨hs, hx, hi3⟩ := HIN.out q j1 hq
          rw [← HX.out] at hx hi3
          have HN := hidden hi3
          have SQ := hidden (SH.out wr HR.out q ⟨j1, hq⟩)
          have HEQ : Hid (∀ p : Int, 0 ≤ p → p < q → ∀ c t c' t', z0[p.toNat]? = some (c, t) → z0[q.toNat]? = some (c', t') → t = t' → share z0 q.toNat a1 = share z0 p.toNat a1) := fun p _ _ c t c' t' h1 h2 h3 => by
            rw [share_at h1, share_at h2, h3]
          generalize hV : share z0 q.toNat a1 = V at *
          have hw1 : IntKind.i64.wrap (x + V) = x + V := by rw [IntKind.wrap_i64]; omega
          have hV0 : ¬ V < 0 := by omega
          clear hi3 hs hx hV
          go_wp2_with fail
          refine Calls.mono SQ.out ?_
          rintro e w2 ⟨rfl, hB⟩
          have HB2 := hidden (HR.out.trans (hB.mono HR.out.size))
          clear hB SQ
          go_wp2_with fail
          go_loopw [9] (fun k wk => ∃ p : Int, 0 ≤ p ∧ p ≤ q ∧ k = .int .i64 p ∧ Hid (Below w.heap.size w wk)) (fun k _ => q.toNat - (intOf k).toNat)
          case atStart => exact ⟨0, by omega, by omega, rfl, HB2.out⟩
          case round =>
            clear HB2
            obtain ⟨p, k1, k2, rfl, HK⟩ := hrel
            by_cases hp : p < q
            · have SP := hidden (SH.out _ HK.out p ⟨k1, by omega⟩)
              have HE2 := hidden (HEQ.out p k1 hp)
              generalize share z0 p.toNat a1 = V' at *
              go_wp2_with fail
              refine Calls.mono SP.out ?_
              rintro e w3 ⟨rfl, hB⟩
              have HB3 := hidden (HK.out.trans (hB.mono HK.out.size))
              clear hB SP
              obtain ⟨c, t, hz, d0, d1⟩ := Fl.get (HZ.out.later HB3.out) (q := p.toNat) (by omega)
              obtain ⟨c', t', hz', d0', d1'⟩ := Fl.get (HZ.out.later HB3.out) (q := q.toNat) (by omega)
              have HT : Hid (t = t' → V = V') := HE2.out c t c' t' hz hz'
              have hql : q < (len0 : Int) := hq
              have hpl : p < (len0 : Int) := by omega
              clear hz hz' HE2 d0 d0' hw1
              by_cases ht : t = t'
              · obtain rfl := HT.out ht
                subst ht
                go_wp2
                go_quiet (fail)
                go_wp2
                go_roundw
                case rel => exact ⟨p + 1, by omega, by omega, rfl, below_drewN HB3.out _⟩
                case measure => simp [intOf]; omega
              · clear HT
                go_wp2
                go_quiet (fail)
                go_wp2
                go_roundw
                case rel => exact ⟨p + 1, by omega, by omega, rfl, below_drewN HB3.out _⟩
                case measure => simp [intOf]; omega
            · obtain rfl : p = q := by omega
              go_wp2
              go_roundw
              case rel => exact ⟨p + 1, x + V, by omega, by omega, rfl, by first | rfl | simp [hw1], HN.out, HK.out⟩
              case measure => simp [intOf]; omega
        · obtain rfl : q = (len0 : Int) := by omega
          have hx := HE.out
          rw [show al z0 a1 len0 = x from HX.out.symm] at hx
          obtain ⟨hx1, hx2⟩ := hx
          have hw1 : IntKind.i64.wrap (a1 - (len0 : Int)) = a1 - (len0 : Int) := by rw [IntKind.wrap_i64]; omega
          clear HX
          go_wp2_with fail
          refine Calls.mono (AW.out _) ?_
          rintro e w2 ⟨rfl, hB⟩
          have HB2 := hidden (HR.out.trans (hB.mono HR.out.size))
          clear hB
          go_wp2
          go_ret
          exact ⟨rfl, HB2.out⟩
    · clear w0 hk hl
      by_cases h0 : a1 < 0
      · clear ho
        go_enter Try.func8, Try.ntmps8
        go_wp2_with fail
        refine Calls.mono CK.out ?_
        rintro e w1 ⟨rfl, hB⟩
        have HB1 := hidden hB
        clear hB CK
        go_wp2_with fail
        refine Calls.mono (AW.out _) ?_
        rintro e w2 ⟨rfl, hB⟩
        have HB2 := hidden (HB1.out.trans (hB.mono HB1.out.size))
        clear hB
        go_wp2
        go_ret
        exact ⟨rfl, HB2.out⟩
      · have h1 : 1073741824 < a1 := by omega
        clear ho
        go_enter Try.func8, Try.ntmps8
        go_wp2_with fail
        refine Calls.mono CK.out ?_
        rintro e w1 ⟨rfl, hB⟩
        have HB1 := hidden hB
        clear hB CK
        go_wp2_with fail
        refine Calls.mono (AW.out _) ?_
        rintro e w2 ⟨rfl, hB⟩
        have HB2 := hidden (HB1.out.trans (hB.mono HB1.out.size))
        clear hB
        go_wp2
        go_ret
        exact ⟨rfl, HB2.out⟩
  · rw [chk_no hk] at CK
    clear w0 hk hl
    go_enter Try.func8, Try.ntmps8
    go_wp2_with fail
    refine Calls.mono CK.out ?_
    rintro e w1 ⟨rfl, hB⟩
    have HB1 := hidden hB
    clear hB CK
    go_wp2_with fail
    refine Calls.mono (AW.out _) ?_
    rintro e w2 ⟨rfl, hB⟩
    have HB2 := hidden (HB1.out.trans (hB.mono HB1.out.size))
    clear hB
    go_wp2
    go_ret
    exact ⟨rfl, HB2.out⟩

theorem contract (H : Type) (enc : TypeId × Value → H) (W : World) (base : Nat) (args : Array Value) (ds gs : List (DataW H)) (before : List MemPlace)
    (hval : ∀ (j : Nat) t v, Try.f8.params[j]? = some t → args[j]? = some v → Value.okWide Try.prog W .any base t v)
    (hW : DataW.Whole enc Try.prog Try.f8.params.toList Rows.coupleAllSpec.vars false W args.toList ds gs before)
    (hsz0 : (DataW.weightsEach Try.prog (Try.f8.params.toList ++ Rows.coupleAllSpec.plain.varTypes Try.prog) (ds ++ gs)).all (· ≤ reachBytes) = true) :
    Calls Try.prog 8 args W fun e W' => ∃ v, e = .returned v ∧ Rows.coupleAllSpec.post enc Try.prog Try.f8 false true false false W args v W' := by
  have hW' := hW
  obtain ⟨p, q, hA0, hV, rfl, hfz, hnd⟩ := hW
  have hA : DataW.TrodAll enc Try.prog W 0 (fun _ => true) true Try.f8.params.toList args.toList ds p := hA0
  have hsz := hsz0
  rw [Try.params8] at hA hval hsz
  obtain ⟨v0, vs0, d0, ds0, p0, q0, hargs, rfl, rfl, h0, r0⟩ := trodAll_cons hA
  obtain ⟨v1, vs1, d1, ds1, p1, q1, rfl, rfl, rfl, h1, r1⟩ := trodAll_cons r0
  obtain ⟨rfl, rfl, rfl⟩ := trodAll_nil r1
  obtain rfl : args = #[v0, v1] := by cases args; simp_all
  obtain ⟨rfl, rfl⟩ := trodVars_none hV
  obtain ⟨a0, len0, cap0, rfl⟩ := okWide_slice Try.underlying22 (hval 0 22 v0 rfl rfl)
  have k0 := h0
  have lt0 : ∀ x ∈ p0, x.block < W.heap.size := by obtain ⟨m, hm⟩ := k0; exact DataW.trod_lt m _ _ _ hm
  have sz0 : (d0.weights Try.prog 22).all (· ≤ reachBytes) = true := List.all_eq_true.2 fun m hm => List.all_eq_true.1 hsz m (DataW.weights_mem_each (j := 0) rfl rfl m hm)
  obtain ⟨z0, w0, s0⟩ : ∃ zs, Ag.Rows (fun q : Int × Int => [.int .i64 q.1, .int .i64 q.2]) (fun q => (Lit.int .i64 q.1).wf = true ∧ (Lit.int .i64 q.2).wf = true) 2 W a0 len0 zs ∧ len0 ≤ cap0 ∧ cap0 * Try.prog.bytesOf 43 ≤ 140737488351232 ∧ (a0 = none → len0 = 0 ∧ cap0 = 0) := by
    obtain ⟨fuel, hf⟩ := h0
    exact Ag.rows_arg kd43 Try.underlying22 (Nat.le_of_ble_eq_true (by kernel_rfl)) hf sz0
  obtain ⟨a1, rfl, rfl, rfl, w1⟩ := open_int Try.underlying3 (hval 1 3 v1 rfl rfl) h1
  clear hA0 hsz0 hsz
  refine (walk a0 len0 cap0 z0 a1 W w0 s0 w1).mono fun e W' ⟨he, bel⟩ => ?_
  subst he
  exact ⟨_, rfl, _, _, _, [], _, [], hW', trodAll_mk1 (shut_bool Try.underlying4 _), (trodAll_cons_mk (Below.trod laidOut (by kernel_rfl) (of_decide_eq_true (by kernel_rfl)) k0 bel lt0) (trodAll_cons_mk (shut_int Try.underlying3 w1) trodAll_mk0)), rfl, bel.frame _, fun h => by cases h⟩

noncomputable def laidWorld (os : Os) : World :=
  World.holding Try.prog os ⟨#[], #[], []⟩
theorem laid_met (os : Os) : laidMet Try.prog Rows.coupleAllRow.laid ((laidWorld os).forCall (fun _ _ => 0) ⟨#[], #[.slice none 0 0, .int .i64 0], []⟩).memory :=
  laidMet_of_run' 8 (by kernel_rfl) (by kernel_rfl)
theorem reads (os : Os) {H : Type} (enc : TypeId × Value → H) : ∃ places, DataW.whole enc Try.prog ((laidWorld os).forCall (fun _ _ => 0) ⟨#[], #[.slice none 0 0, .int .i64 0], []⟩).memory Try.f8.params.toList Rows.coupleAllSpec.vars false #[Value.slice none 0 0, Value.int .i64 0].toList 8 = some ([.nil, .lit (.int .i64 0)], [], places) :=
  ⟨[], by kernel_rfl⟩

set_option maxRecDepth 100000 in
theorem lifted (os : Os) (started : os.Started) (H : Type) (enc : TypeId × Value → H) (F : Stop.Interp) :
    ReturnsInHanded {} Try.checked os 8 .any ((OpenSpec.ofChange Rows.coupleAllSpec).preRow enc Try.prog Try.f8 Rows.coupleAllRow.domain false Rows.coupleAllRow.laid) (((OpenSpec.ofChange Rows.coupleAllSpec).at F).post enc Try.prog Try.f8 false true false false) := by
  obtain ⟨places, hx⟩ := reads os enc
  refine returnsInHanded_of_row (C := Try.checked) (s := OpenSpec.ofChange Rows.coupleAllSpec) own started (by kernel_rfl) Try.func8
    (witness_row_at (enc := enc) (C := Try.checked) false (laidWorld os) #[.slice none 0 0, .int .i64 0] rfl (by kernel_rfl) (by kernel_rfl) (by kernel_rfl)
      (OpenSpec.preRow_of_cond 8 hx (by kernel_rfl) (fun k hk => by cases hk) (by kernel_rfl) (laid_met os))) ?_
  intro W base args ds gs before hval hW _ hcond hsz hL _ _
  exact contract H enc W base args ds gs before hval hW hsz

theorem said : Rows.CoupleAllSaid :=
  OpenClaim.holds_of_cond 8 Try.f8 rfl rfl rfl rfl rfl rfl rfl ⟨rfl, rfl, rfl, rfl, rfl⟩ rfl rfl rfl rfl rfl (by kernel_rfl) Try.func8 (by kernel_rfl)
    (of_decide_eq_true (by kernel_rfl)) (by unfold Func.isWrapper; first | (rw [if_pos (by decide +kernel)]; kernel_rfl) | (rw [if_neg (by decide +kernel)]; exact ⟨rfl, rfl⟩))
    (fun os started H enc _ F => by rw [OpenClaim.pre_eq_preRow]; exact lifted os started H enc F)

/-- THE STATEMENT -/
theorem proved : Rows.CoupleAllSaid := said
#print axioms proved
end Go.Proofs.Ytbcdoilfmfckiaa.coupleAll
