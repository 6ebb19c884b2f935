/-
  What NetRuns says is true for every number of paths and every run of acts: a network answers as the document's (P9.1 to P9.6). Conditions: none.
-/
import Derived.Test.YtmogacccffkkbaaRows
import Derived.WalkKit
import Derived.ProofKit
import Derived.OpenShut
import Derived.ShutString
import Derived.ChangeOld
import Derived.Below
import Derived.SizedLaws
import Derived.Deep.DeepHandedRow
import Derived.LaidLaws
import Derived.ChangeMaps5
import Derived.Test.YtmogacccffkkbaaNtAl
import Derived.Test.YtmogacccffkkbaaNtArg
namespace Go.Proofs.Ytmogacccffkkbaa.netRuns
open Go.ChangeShapes Go.WideShapes Go.ChangeAt Go.RowKit
open Go.ChangeMaps (open_string shut_string)
set_option linter.unusedVariables false

theorem own : ownKnob Try.prog.godebug = none := by kernel_rfl
theorem laidOut : laidOutB Try.prog = true := by kernel_rfl

open Ba (hidden Has Only In)
set_option maxHeartbeats 4000000 in
set_option maxRecDepth 20000 in

theorem walk (a0 : Int) (a1 : Option Addr) (len1 cap1 : Nat) (z1 : List Nt.Oq) (w : World) (w0 : (Lit.int .i64 a0).wf = true) (w1 : Nt.OpsR w a1 len1 z1) :
    Calls Try.prog 3 #[.int .i64 a0, .slice a1 len1 cap1] w fun e w' => e = .returned (.bool true) ∧ Below w.heap.size w w' := by
  have AW := hidden Nt.awake
  have HZ := hidden w1
  have hlen : len1 ≤ 140737488355328 := w1.2.2.1
  by_cases hp : 1 ≤ a0 ∧ a0 ≤ 8
  · obtain ⟨p, rfl⟩ : ∃ p : Nat, a0 = (p : Int) := ⟨a0.toNat, by omega⟩
    have hpn : 1 ≤ p ∧ p ≤ 8 := by omega
    have NW := hidden (Nt.new p hpn w)
    have RN : Hid (∀ x, Calls Try.prog 8 #[.int .i64 p] x fun e w' => ∃ r, e = .returned (.tuple #[.pointer (some ⟨r, 0, none⟩), .int .i64 0]) ∧ (∃ rv ov rb, Nt.Ro x.heap.size w' r rv ov rb (fun _ _ => .slice none 0 0) (fun _ _ => []) (Nt.fresh p)) ∧ Below x.heap.size x w') := fun x => Nt.rNew p hpn x
    have hI0 : Nt.Inv (Nt.fresh p) := Nt.inv_fresh hpn.2
    have HI0 := hidden hI0
    have ACT : Hid (∀ (W x : World) (t r : Nat) (S : Nt.St) (o : Nt.Op) (a : Option Addr) (n cap : Nat), Nt.Pn w.heap.size W x t r S S → Nt.Inv S → S.next ≤ 1000 → Nt.By w.heap.size x a n o.bs → (a = none → cap = 0) → 0 ≤ o.bits ∧ o.bits < 256 → Calls Try.prog 10 #[.pointer (some ⟨t, 0, none⟩), .pointer (some ⟨r, 0, none⟩), .agg #[.int .i64 o.kind, .int .i64 o.en, .int .i64 o.path, .int .i64 o.i, .int .i64 o.at_, .int .i64 o.now, .int .u8 o.bits, .slice a n cap]] x fun e' w' => e' = .returned (.bool true) ∧ Nt.Pn w.heap.size W w' t r (Nt.act_ o S) (Nt.act_ o S)) := fun W x t r S o a n cap h hI hn hb hnil hbi => Calls.mono (Nt.act h hI hn hI hn o hb hnil hbi) (by
      rintro e' w' ⟨β, rfl, hβ, hP⟩
      exact ⟨by rw [hβ rfl], hP⟩)
    clear w0 w1 hI0
    go_enter Try.func3, Try.ntmps3
    go_wp2_with fail
    refine Calls.mono NW.out ?_
    rintro e x1 ⟨t, b, rfl, hN, hB1⟩
    have HN := hidden hN
    have HB1 := hidden hB1
    clear hN hB1 NW
    go_wp2_with fail
    refine Calls.mono (RN.out _) ?_
    rintro e x2 ⟨r, rfl, ⟨rv, ov, rb, hR⟩, hB2⟩
    have hs := HB1.out.size
    have hP : Nt.Pn w.heap.size w x2 t r (Nt.fresh p) (Nt.fresh p) := ⟨⟨b, _, HN.out.later hB2⟩, ⟨rv, ov, rb, _, _, ⟨Nat.le_trans hs hR.br, hR.net, Ba.own_mono hR.rows (fun k hk => Nat.le_trans hs (hR.rows.lt k hk).1), Ba.own_mono hR.offs (fun k hk => Nat.le_trans hs (hR.offs.lt k hk).1), hR.row, fun i hi => Nat.le_trans hs (hR.rbb i hi), hR.rinj, hR.eq, fun i e => World.ownsRow_nil _ _ _ _, hR.ap, fun i e x hx => (by cases hx), hR.bn, hR.bp⟩⟩, HB1.out.trans (hB2.mono hs), Nat.le_refl _⟩
    have HP := hidden hP
    clear hR hB2 hP HN HB1 RN hs
    go_wp2_with fail
    go_loopw [9] (fun iv wr => ∃ (q : Int) (S : Nt.St), iv = .int .i64 q ∧ Hid (Nt.Pn w.heap.size w wr t r S S ∧ Nt.Inv S ∧ S.next ≤ q) ∧ 0 ≤ q ∧ q ≤ 400 ∧ q ≤ (len1 : Int)) (fun iv _ => 400 - (intOf iv).toNat)
    case atStart => exact ⟨0, Nt.fresh p, rfl, ⟨HP.out, HI0.out, Int.le_refl _⟩, by omega, by omega, by omega⟩
    case round =>
      obtain ⟨q, S, rfl, HQ, j1, j2, j3⟩ := hrel
      by_cases hq : q < (len1 : Int)
      · by_cases hq2 : q < 400
        · obtain ⟨b', off, z, rfl, _, c0, c1, c2, c3, c4, c5, c6, c7, hby, hnil, hbi⟩ := HZ.out.at HQ.out.1.b (j := q.toNat) (by omega)
          have AC := hidden (ACT.out w wr t r S z.1 z.2.1 z.2.2.1 z.2.2.2 HQ.out.1 HQ.out.2.1 (by have := HQ.out.2.2; omega) hby hnil hbi)
          have HNX := hidden (Nt.act_inv HQ.out.2.1 z.1 hby.2.1 hbi)
          generalize z.1 = o at *
          generalize z.2.1 = za at *
          generalize z.2.2.1 = zn at *
          generalize z.2.2.2 = zc at *
          have HNQ := hidden HQ.out.2.2
          clear hby hnil hbi HQ
          go_wp2_with fail
          refine Calls.mono AC.out ?_
          rintro e x3 ⟨rfl, hP3⟩
          have HS := hidden (Nt.same hP3 HNX.out.1 (by have := HNX.out.2; have := HNQ.out; omega))
          have HP3 := hidden hP3
          clear hP3 AC c0 c1 c2 c3 c4 c5 c6 c7
          go_wp2_with fail
          refine Calls.mono HS.out ?_
          rintro e x4 ⟨rfl, hB4⟩
          have HP4 : Hid (Nt.Pn w.heap.size w x4 t r (Nt.act_ o S) (Nt.act_ o S) ∧ Nt.Inv (Nt.act_ o S) ∧ (Nt.act_ o S).next ≤ q + 1) := ⟨HP3.out.later hB4, HNX.out.1, by have := HNX.out.2; have := HNQ.out; omega⟩
          clear hB4 HS HP3 HNX HNQ
          go_wp2
          go_roundw
          case rel => exact ⟨_, _, rfl, HP4.out, by omega, by omega, by omega⟩
          case measure => simp [intOf]; omega
        · have hge : (400 : Int) ≤ q := by omega
          go_wp2_with fail
          refine Calls.mono (AW.out _) ?_
          rintro e x3 ⟨rfl, hB3⟩
          have HF := hidden (HQ.out.1.b.trans (hB3.mono HQ.out.1.bs))
          clear hB3 HQ
          go_wp2
          go_ret
          exact ⟨rfl, HF.out⟩
      · have hge : (len1 : Int) ≤ q := by omega
        go_wp2_with fail
        refine Calls.mono (AW.out _) ?_
        rintro e x3 ⟨rfl, hB3⟩
        have HF := hidden (HQ.out.1.b.trans (hB3.mono HQ.out.1.bs))
        clear hB3 HQ
        go_wp2
        go_ret
        exact ⟨rfl, HF.out⟩
  · have NW := hidden (Nt.new_no a0 hp w)
    have RN := hidden (Nt.rNew_no a0 hp w)
    clear w0 w1
    go_enter Try.func3, Try.ntmps3
    go_wp2_with fail
    refine Calls.mono NW.out ?_
    rintro e x1 ⟨rfl, rfl⟩
    go_wp2_with fail
    refine Calls.mono RN.out ?_
    rintro e x1 ⟨rfl, rfl⟩
    go_wp2_with fail
    refine Calls.mono (AW.out _) ?_
    rintro e x3 ⟨rfl, hB3⟩
    have HF := hidden hB3
    clear hB3
    go_wp2
    go_ret
    exact ⟨rfl, HF.out⟩

set_option maxRecDepth 100000 in
theorem contract (H : Type) (enc : TypeId × Value → H) (W : World) (base : Nat) (args : Array Value) (ds gs : List (DataW H)) (before : List MemPlace)
    (hval : ∀ (j : Nat) t v, Try.f3.params[j]? = some t → args[j]? = some v → Value.okWide Try.prog W .any base t v)
    (hW : DataW.Whole enc Try.prog Try.f3.params.toList Rows.netRunsSpec.vars false W args.toList ds gs before)
    (hsz0 : (DataW.weightsEach Try.prog (Try.f3.params.toList ++ Rows.netRunsSpec.plain.varTypes Try.prog) (ds ++ gs)).all (· ≤ reachBytes) = true) :
    Calls Try.prog 3 args W fun e W' => ∃ v, e = .returned v ∧ Rows.netRunsSpec.post enc Try.prog Try.f3 false true false false W args v W' := by
  have hW' := hW
  obtain ⟨p, q, hA0, hV, rfl, hfz, hnd⟩ := hW
  have hA : DataW.TrodAll enc Try.prog W 0 (fun _ => true) true Try.f3.params.toList args.toList ds p := hA0
  have hsz := hsz0
  rw [Try.params3] at hA hval hsz
  obtain ⟨v0, vs0, d0, ds0, p0, q0, hargs, rfl, rfl, h0, r0⟩ := trodAll_cons hA
  obtain ⟨v1, vs1, d1, ds1, p1, q1, rfl, rfl, rfl, h1, r1⟩ := trodAll_cons r0
  obtain ⟨rfl, rfl, rfl⟩ := trodAll_nil r1
  obtain rfl : args = #[v0, v1] := by cases args; simp_all
  obtain ⟨rfl, rfl⟩ := trodVars_none hV
  obtain ⟨a0, rfl, rfl, rfl, w0⟩ := open_int Try.underlying3 (hval 0 3 v0 rfl rfl) h0
  obtain ⟨a1, len1, cap1, rfl⟩ := okWide_slice Try.underlying22 (hval 1 22 v1 rfl rfl)
  have k1 := h1
  have lt1 : ∀ x ∈ p1, x.block < W.heap.size := by obtain ⟨m, hm⟩ := k1; exact DataW.trod_lt m _ _ _ hm
  have sz1 : (d1.weights Try.prog 22).all (· ≤ reachBytes) = true := List.all_eq_true.2 fun m hm => List.all_eq_true.1 hsz m (DataW.weights_mem_each (j := 1) rfl rfl m hm)
  obtain ⟨z1, w1⟩ : ∃ zs, Nt.OpsR W a1 len1 zs := by
    obtain ⟨fuel, hf⟩ := h1
    exact Nt.ops_arg hf sz1
  clear hA0 hsz0 hsz
  refine (walk a0 a1 len1 cap1 z1 W w0 w1).mono fun e W' ⟨he, bel⟩ => ?_
  subst he
  exact ⟨_, rfl, _, _, _, [], _, [], hW', trodAll_mk1 (shut_bool Try.underlying4 _), (trodAll_cons_mk (shut_int Try.underlying3 w0) (trodAll_cons_mk (Below.trod laidOut (by kernel_rfl) (of_decide_eq_true (by kernel_rfl)) k1 bel lt1) trodAll_mk0)), rfl, bel.frame _, fun h => by cases h⟩

noncomputable def laidWorld (os : Os) : World :=
  World.holding Try.prog os ⟨#[], #[], []⟩
theorem laid_met (os : Os) : laidMet Try.prog Rows.netRunsRow.laid ((laidWorld os).forCall (fun _ _ => 0) ⟨#[], #[.int .i64 0, .slice none 0 0], []⟩).memory :=
  laidMet_of_run' 8 (by kernel_rfl) (by kernel_rfl)
theorem reads (os : Os) {H : Type} (enc : TypeId × Value → H) : ∃ places, DataW.whole enc Try.prog ((laidWorld os).forCall (fun _ _ => 0) ⟨#[], #[.int .i64 0, .slice none 0 0], []⟩).memory Try.f3.params.toList Rows.netRunsSpec.vars false #[Value.int .i64 0, Value.slice none 0 0].toList 8 = some ([.lit (.int .i64 0), .nil], [], places) :=
  ⟨[], by kernel_rfl⟩

set_option maxRecDepth 100000 in
theorem lifted (os : Os) (started : os.Started) (H : Type) (enc : TypeId × Value → H) (F : Stop.Interp) :
    ReturnsInHanded {} Try.checked os 3 .any ((OpenSpec.ofChange Rows.netRunsSpec).preRow enc Try.prog Try.f3 Rows.netRunsRow.domain false Rows.netRunsRow.laid) (((OpenSpec.ofChange Rows.netRunsSpec).at F).post enc Try.prog Try.f3 false true false false) := by
  obtain ⟨places, hx⟩ := reads os enc
  refine returnsInHanded_of_row (C := Try.checked) (s := OpenSpec.ofChange Rows.netRunsSpec) own started (by kernel_rfl) Try.func3
    (witness_row_at (enc := enc) (C := Try.checked) false (laidWorld os) #[.int .i64 0, .slice none 0 0] rfl (by kernel_rfl) (by kernel_rfl) (by kernel_rfl)
      (OpenSpec.preRow_of_cond 8 hx (by kernel_rfl) (fun k hk => by cases hk) (by kernel_rfl) (laid_met os))) ?_
  intro W base args ds gs before hval hW _ hcond hsz hL _ _
  exact contract H enc W base args ds gs before hval hW hsz

theorem said : Rows.NetRunsSaid :=
  OpenClaim.holds_of_cond 3 Try.f3 rfl rfl rfl rfl rfl rfl rfl ⟨rfl, rfl, rfl, rfl, rfl⟩ rfl rfl rfl rfl rfl (by kernel_rfl) Try.func3 (by kernel_rfl)
    (of_decide_eq_true (by kernel_rfl)) (by unfold Func.isWrapper; first | (rw [if_pos (by decide +kernel)]; kernel_rfl) | (rw [if_neg (by decide +kernel)]; exact ⟨rfl, rfl⟩))
    (fun os started H enc _ F => by rw [OpenClaim.pre_eq_preRow]; exact lifted os started H enc F)

/-- THE STATEMENT -/
theorem proved : Rows.NetRunsSaid := said
#print axioms proved
end Go.Proofs.Ytmogacccffkkbaa.netRuns
