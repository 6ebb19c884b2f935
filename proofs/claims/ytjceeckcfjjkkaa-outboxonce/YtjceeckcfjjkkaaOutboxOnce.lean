/-
  Each byte is freed once: what was put is freed, or kept and not freed, for every first number, number of paths and row of acts.
  Conditions: none.
-/
import Derived.Test.YtjceeckcfjjkkaaRows
import Derived.WalkKit
import Derived.ProofKit
import Derived.OpenShut
import Derived.ShutString
import Derived.ChangeOld
import Derived.Below
import Derived.SizedLaws
import Derived.Deep.DeepHandedRow
import Derived.LaidLaws
import Derived.ChangeMaps5
import Derived.Test.YtjceeckcfjjkkaaOeT
import Derived.Test.YtjceeckcfjjkkaaOcA
import Derived.Test.YtjceeckcfjjkkaaAg
import Derived.Test.YtjceeckcfjjkkaaOcArgs
import Derived.Deep.CutBlock
import Derived.Deep.CutRange
import Derived.Deep.LoopGhost
namespace Go.Proofs.Ytjceeckcfjjkkaa.outboxOnce
open Go.ChangeShapes Go.WideShapes Go.ChangeAt Go.RowKit
open Go.ChangeMaps (open_string shut_string)
set_option linter.unusedVariables false

theorem own : ownKnob Try.prog.godebug = none := by kernel_rfl
theorem laidOut : laidOutB Try.prog = true := by kernel_rfl

open Ba (hidden Has cell_lt)
open Ob
set_option maxRecDepth 20000 in
set_option maxHeartbeats 40000000 in

theorem walk (a0 : Int) (a1 : Int) (a2 : Option Addr) (len2 cap2 : Nat) (z2 : List Ob.OA) (w : World) (w0 : (Lit.int .u32 a0).wf = true) (w1 : (Lit.int .i64 a1).wf = true) (w2 : Ob.Ops w a2 len2 z2) (s2 : True) :
    Calls Try.prog 4 #[.int .u32 a0, .int .i64 a1, .slice a2 len2 cap2] w fun e w' => e = .returned (.bool true) ∧ Below w.heap.size w w' := by
  have HU0 := hidden (Ob.u32_bounds w0)
  have HS := hidden w2
  clear w0 w1 w2 s2
  by_cases hn : 1 ≤ a1 ∧ a1 ≤ 8
  case neg =>
    have N := hidden (Ob.new_no a0 a1 hn w)
    have R := hidden (Ob.r_new_no a0 a1 hn w)
    have AL := hidden (Ob.alive w)
    clear hn
    go_enter Try.func4, Try.ntmps4
    go_wp2_with fail
    refine Calls.mono N.out ?_
    rintro e w' ⟨rfl, rfl⟩
    go_wp2_with fail
    refine Calls.mono R.out ?_
    rintro e w' ⟨rfl, rfl⟩
    go_wp2_with fail
    refine Calls.mono AL.out ?_
    rintro e x1 ⟨rfl, hB⟩
    go_wp2
    go_ret
    exact ⟨rfl, hB⟩
  case pos =>
    have N := hidden (Ob.new (fun k => w.heap.size ≤ k) a0 a1 HU0.out hn.1 hn.2 w)
    have R := hidden (fun X => Ob.r_new (fun k => w.heap.size ≤ k) a0 a1 hn.1 hn.2 X)
    have HN := hidden hn
    clear hn
    go_enter Try.func4, Try.ntmps4
    go_wp2_with fail
    refine Calls.mono N.out ?_
    rintro e x1 ⟨t, rfl, ⟨F, hC, hF⟩, hB1⟩
    have H1 := hidden (And.intro hC (And.intro hF hB1))
    clear hC hF hB1
    go_wp2_with fail
    refine Calls.mono (R.out x1) ?_
    rintro e x2 ⟨r, rfl, hR, hr, hB2⟩
    have HB0 := hidden (Bx.new HN.out.1 H1.out.1 H1.out.2.1 H1.out.2.2 hR hr hB2)
    have HG0 := hidden (Ob.Good.new HU0.out HN.out)
    have hk0 : kp (newS a0 a1).L = 0 := rfl
    have HK0 := hidden hk0
    clear hR hr hB2 H1 hk0 N R
    go_wp2_with fail
    go_loopw [11, 12, 13] (fun p f i X => ∃ (k : Nat) (S : St) (pu fr : Int), p = .int .i64 pu ∧ f = .int .i64 fr ∧ i = .int .i64 (k : Int) ∧ k ≤ len2 ∧ k ≤ 120 ∧ Hid (Bx w X t r S ∧ Ob.Good k S ∧ pu = fr + kp S.L ∧ 0 ≤ pu ∧ pu ≤ 65536 * (k : Int))) (fun p f i X => 120 - (intOf i).toNat)
    case atStart => exact ⟨0, newS a0 a1, 0, 0, rfl, rfl, rfl, Nat.zero_le _, by omega, HB0.out, HG0.out, by rw [HK0.out]; rfl, by omega, by omega⟩
    case round =>
      obtain ⟨k, S, pu, fr, rfl, rfl, rfl, hk2, hk120, HI⟩ := hrel
      have hwk : IntKind.i64.wrap ((k : Int) + 1) = (k : Int) + 1 := by rw [IntKind.wrap_i64]; omega
      by_cases hl2 : (k : Int) < (len2 : Int)
      case neg =>
        have AL := hidden (Ob.alive wr)
        go_wp2_with fail
        refine Calls.mono AL.out ?_
        rintro e x5 ⟨rfl, hB5⟩
        go_wp2
        go_ret
        exact ⟨rfl, HI.out.1.bl.trans (hB5.mono HI.out.1.bl.size)⟩
      case pos =>
        by_cases hl120 : (k : Int) < 120
        case neg =>
          have AL := hidden (Ob.alive wr)
          go_wp2_with fail
          refine Calls.mono AL.out ?_
          rintro e x5 ⟨rfl, hB5⟩
          go_wp2
          go_ret
          exact ⟨rfl, HI.out.1.bl.trans (hB5.mono HI.out.1.bl.size)⟩
        case pos =>
          obtain ⟨f, rv, P, hN, hFC⟩ := HI.out.1.no
          have LE := hidden (Ob.len hN)
          have NX := hidden (Ob.next hN)
          clear hN hFC
          go_wp2_with fail
          refine Calls.mono LE.out ?_
          rintro e X ⟨rfl, rfl⟩
          go_wp2_with fail
          refine Calls.mono NX.out ?_
          rintro e X ⟨rfl, rfl⟩
          obtain ⟨b, off, o, hao, hz, hok, hcells⟩ := op_at HS.out HI.out.1.bl (j := k) (by omega)
          have LD := hidden (load26 hcells)
          have AC := act HI.out.1 HI.out.2.1 (by omega) o hok
          have HZ := hidden hz
          have HOK := hidden hok
          have HAO := hidden hao
          subst hao
          have AC := hidden AC
          clear LE NX hcells hz hok
          go_wp2_with (refine wpList_ld rfl 50 _ rfl _ rfl _ LD.out ?_)
          refine Calls.mono AC.out ?_
          rintro e X2 ⟨S', fq, ra, rl, rc, rn, rfl, hst, hG2, hB2⟩
          have HST := hidden hst
          have HG2 := hidden hG2
          have HB2 := hidden hB2
          clear hst hG2 hB2 AC LD
          obtain ⟨b16, hb16⟩ : ∃ b16, b16 = X2.heap.size := ⟨_, rfl⟩
          go_upto_region 14 with fail
          obtain ⟨W3, hW3⟩ : ∃ W3, W3 = X2.alloc (.cells #[.slice ra rl rc, .int .i64 fq, .int .i64 rn] 34) := ⟨_, rfl⟩
          have hB3 : Below X2.heap.size X2 W3 := by rw [hW3]; exact (Below.refl _ _).alloc (Nat.le_refl _) _
          have HB3 := hidden (HB2.out.later hB3)
          have H16 : Hid (Has W3 b16 #[.slice ra rl rc, .int .i64 fq, .int .i64 rn] 34) := by rw [hb16, hW3]; exact Has.new _ _ _
          rw [← hW3, ← hb16]
          clear hB3 hW3 hb16
          obtain ⟨b', off', o', e', hz', _, hcells⟩ := op_at HS.out HB3.out.bl (j := k) (by omega)
          cases e'
          rw [HZ.out] at hz'
          cases hz'
          have c0 := hcells 0 (.int .i64 o.kd) rfl
          rw [Nat.add_zero] at c0
          have c7 := hcells 7 (.slice o.p.m.a o.p.m.l o.p.m.c) rfl
          clear hcells
          obtain ⟨f, rv, P, hN, hFC⟩ := HB3.out.no
          have NX := hidden (Ob.next hN)
          have LE := hidden (Ob.len hN)
          have AV := hidden (Ob.all hN (by have := HG2.out.len; have := HG2.out.k; omega) (fun x hx => (HG2.out.ch x hx).d1))
          clear hN hFC
          go_cut [86] from 300 (fun s wx => s = .bool (putB S S' o) ∧ Hid (W3 = wx))
          case first =>
            clear c7
            by_cases h1 : o.kd = 1
            · rw [h1] at c0
              have HD : Hid (decide (o.kd = 1) = true) := decide_eq_true h1
              clear h1
              go_wp2_with fail
              refine Calls.mono NX.out ?_
              rintro e X ⟨rfl, rfl⟩
              go_wp2_with fail
              go_meet
              case rel => exact ⟨by unfold putB; rw [HD.out]; rfl, rfl⟩
            · have h1b : (o.kd == 1) = false := by simp [h1]
              have HD : Hid (decide (o.kd = 1) = false) := decide_eq_false h1
              go_wp2_with fail
              go_meet
              case rel => exact ⟨by unfold putB; rw [HD.out]; rfl, rfl⟩
          case rest =>
            obtain ⟨rfl, hw⟩ := hcut
            have hw := hw.out
            subst hw
            have hkb := kp_bound HI.out.2.1
            have hkb2 := kp_bound HG2.out
            have hpe := HI.out.2.2.1
            have hp0 := HI.out.2.2.2.1
            have hp1 := HI.out.2.2.2.2
            have hsp := HST.out.put (HI.out.2.1.mono (Nat.le_succ k) (by omega)) HG2.out
            have hzl : o.p.m.zs.length = o.p.m.l := HOK.out.1.1.1
            have hsl := HI.out.2.1.len
            have hsk := HI.out.2.1.k
            have HPU : Hid (0 ≤ fr + fq + kp S'.L ∧ fr + fq + kp S'.L ≤ 65536 * ((k : Int) + 1)) := by
              rcases hsp with ⟨_, _, _, h3, h4⟩ | ⟨_, h3⟩
              · show _ ∧ _; omega
              · show _ ∧ _; omega
            have hwf : IntKind.i64.wrap (fr + fq) = fr + fq := by have := HPU.out; rw [IntKind.wrap_i64]; omega
            have hwt : IntKind.i64.wrap (fr + fq + kp S'.L) = fr + fq + kp S'.L := by have := HPU.out; rw [IntKind.wrap_i64]; omega
            have hwn : IntKind.i64.wrap ((S.L.length : Int) + 1) = (S.L.length : Int) + 1 := by rw [IntKind.wrap_i64]; omega
            have hwp : putB S S' o = true → IntKind.i64.wrap (pu + (o.p.m.l : Int)) = fr + fq + kp S'.L := fun hb => by
              rcases hsp with ⟨_, _, _, h3, h4⟩ | ⟨h3, _⟩
              · rw [IntKind.wrap_i64]; omega
              · rw [hb] at h3; cases h3
            have hnp : putB S S' o = false → pu = fr + fq + kp S'.L := fun hb => by
              rcases hsp with ⟨h3, _⟩ | ⟨_, h3⟩
              · rw [hb] at h3; cases h3
              · omega
            have hln : putB S S' o = true → (S'.L.length : Int) = (S.L.length : Int) + 1 := fun hb => by
              rcases hsp with ⟨_, _, h3, _⟩ | ⟨h3, _⟩
              · omega
              · rw [hb] at h3; cases h3
            have HWP := hidden hwp
            have HNP := hidden hnp
            have HLN := hidden hln
            clear hkb hkb2 hpe hp0 hp1 hsp hzl hsl hsk hwp hnp hln c0 NX
            go_upto_if 86 with fail
            go_cut [11] from 86 to 86 (fun p wx => p = .int .i64 (fr + fq + kp S'.L) ∧ Hid (W3 = wx))
            case first =>
              cases hb : putB S S' o with
              | true =>
                have hw1 := HWP.out hb
                have LE2 := LE.out
                rw [HLN.out hb] at LE2
                have LE2 := hidden LE2
                clear hb hwf hwt
                go_wp2_with fail
                clear hw1 c7
                refine Calls.mono LE2.out ?_
                rintro e X ⟨rfl, rfl⟩
                go_wp2_with fail
                go_meet
                case rel => exact ⟨rfl, rfl⟩
              | false =>
                have HB := hidden (HNP.out hb)
                clear hb hwf hwt hwn c7
                go_wp2_with fail
                go_meet
                case rel => exact ⟨by rw [← HB.out], rfl⟩
            case rest =>
              obtain ⟨rfl, hw⟩ := hcut
              have hw := hw.out
              subst hw
              have r1 := H16.out.cell 1 rfl
              clear LE HWP HNP HLN c7 hwn
              go_wp2_with fail
              refine Calls.mono AV.out ?_
              rintro e X5 ⟨v, rfl, hT, hB5⟩
              have HLS := hidden hT.ls
              have HB5 := hidden (HB3.out.later hB5)
              obtain ⟨z, hzl⟩ : ∃ z, z = S'.L.length := ⟨_, rfl⟩
              have HZL := hidden hzl
              obtain ⟨va, vc, hv, _⟩ := HLS.out
              subst hv
              rw [← hzl] at HLS ⊢
              have HZ1 : Hid (z ≤ 1000) := by rw [hzl]; have := HG2.out.len; have := HG2.out.k; show _ ≤ _; omega
              have HKT := hidden (fun j => kp_take HG2.out j)
              clear hT hB5 hzl r1 AV
              go_wp2_with fail
              go_loopw [18, 20] (fun q j X => ∃ j0 : Nat, q = .int .i64 (sm kpF (S'.L.take j0)) ∧ j = .int .i64 (j0 : Int) ∧ j0 ≤ z ∧ X = X5) (fun q j X => z - (intOf j).toNat)
              case atStart => exact ⟨0, rfl, rfl, Nat.zero_le _, rfl⟩
              case round =>
                obtain ⟨j, rfl, rfl, hjz, rfl⟩ := hrel
                have hwj : IntKind.i64.wrap ((j : Int) + 1) = (j : Int) + 1 := by have := HZ1.out; rw [IntKind.wrap_i64]; omega
                by_cases hjl : (j : Int) < (z : Int)
                case pos =>
                  obtain ⟨x, hx⟩ : ∃ x, S'.L[j]? = some x := ⟨_, List.getElem?_eq_getElem (by rw [← HZL.out]; omega)⟩
                  obtain ⟨g, o2, cap, a1, c1, e1, hc, _⟩ := HLS.out.get hx
                  rw [← HZL.out] at e1
                  cases e1
                  have m6 := hc 6 (.int .i64 x.st) rfl
                  have m11 := hc 11 (.slice a1 x.p.d.length c1) rfl
                  have hs := sm_take (f := kpF) hx
                  have hb1 := HKT.out j
                  have hb2 := HKT.out (j + 1)
                  rw [hs] at hb2
                  have HSM := hidden hs
                  clear hs hc hx
                  generalize sm kpF (S'.L.take j) = A at *
                  by_cases h4 : x.st = 4
                  · have HF : kpF x = 0 := by unfold kpF; rw [if_pos h4]
                    rw [HF] at hb2 HSM
                    rw [h4] at m6
                    clear HF h4
                    go_wp2
                    go_roundw
                    case rel => exact ⟨j + 1, by rw [HSM.out, Int.add_zero], by simp, by omega, by trivial⟩
                    case measure => simp only [intOf]; omega
                  · have h4b : (x.st == 4) = false := by simp [h4]
                    have HF : kpF x = (x.p.d.length : Int) := by unfold kpF sz; rw [if_neg h4]
                    rw [HF] at hb2 HSM
                    have hwa : IntKind.i64.wrap (A + (x.p.d.length : Int)) = A + (x.p.d.length : Int) := by rw [IntKind.wrap_i64]; omega
                    clear HF
                    go_wp2
                    go_roundw
                    case rel => exact ⟨j + 1, by rw [HSM.out], by simp, by omega, by trivial⟩
                    case measure => simp only [intOf]; omega
                case neg =>
                  obtain rfl : z = j := by omega
                  have HE : sm kpF (S'.L.take z) = kp S'.L := by rw [HZL.out, List.take_length]; rfl
                  rw [HE]
                  clear HE
                  go_wp2
                  go_roundw
                  case rel => exact ⟨k + 1, S', fr + fq + kp S'.L, fr + fq, rfl, rfl, by simp, by omega, by omega, HB5.out, HG2.out, by omega, HPU.out.1, by have := HPU.out.2; omega⟩
                  case measure => simp only [intOf]; omega

set_option maxRecDepth 100000 in
theorem contract (H : Type) (enc : TypeId × Value → H) (W : World) (base : Nat) (args : Array Value) (ds gs : List (DataW H)) (before : List MemPlace)
    (hval : ∀ (j : Nat) t v, Try.f4.params[j]? = some t → args[j]? = some v → Value.okWide Try.prog W .any base t v)
    (hW : DataW.Whole enc Try.prog Try.f4.params.toList Rows.outboxOnceSpec.vars false W args.toList ds gs before)
    (hsz0 : (DataW.weightsEach Try.prog (Try.f4.params.toList ++ Rows.outboxOnceSpec.plain.varTypes Try.prog) (ds ++ gs)).all (· ≤ reachBytes) = true) :
    Calls Try.prog 4 args W fun e W' => ∃ v, e = .returned v ∧ Rows.outboxOnceSpec.post enc Try.prog Try.f4 false true false false W args v W' := by
  have hW' := hW
  obtain ⟨p, q, hA0, hV, rfl, hfz, hnd⟩ := hW
  have hA : DataW.TrodAll enc Try.prog W 0 (fun _ => true) true Try.f4.params.toList args.toList ds p := hA0
  have hsz := hsz0
  rw [Try.params4] at hA hval hsz
  obtain ⟨v0, vs0, d0, ds0, p0, q0, hargs, rfl, rfl, h0, r0⟩ := trodAll_cons hA
  obtain ⟨v1, vs1, d1, ds1, p1, q1, rfl, rfl, rfl, h1, r1⟩ := trodAll_cons r0
  obtain ⟨v2, vs2, d2, ds2, p2, q2, rfl, rfl, rfl, h2, r2⟩ := trodAll_cons r1
  obtain ⟨rfl, rfl, rfl⟩ := trodAll_nil r2
  obtain rfl : args = #[v0, v1, v2] := by cases args; simp_all
  obtain ⟨rfl, rfl⟩ := trodVars_none hV
  obtain ⟨a0, rfl, rfl, rfl, w0⟩ := open_int Try.underlying22 (hval 0 22 v0 rfl rfl) h0
  obtain ⟨a1, rfl, rfl, rfl, w1⟩ := open_int Try.underlying3 (hval 1 3 v1 rfl rfl) h1
  obtain ⟨a2, len2, cap2, rfl⟩ := okWide_slice Try.underlying23 (hval 2 23 v2 rfl rfl)
  have k2 := h2
  have lt2 : ∀ x ∈ p2, x.block < W.heap.size := by obtain ⟨m, hm⟩ := k2; exact DataW.trod_lt m _ _ _ hm
  have sz2 : (d2.weights Try.prog 23).all (· ≤ reachBytes) = true := List.all_eq_true.2 fun m hm => List.all_eq_true.1 hsz m (DataW.weights_mem_each (j := 2) rfl rfl m hm)
  obtain ⟨z2, w2, s2⟩ : ∃ z2, Ob.Ops W a2 len2 z2 ∧ True := by
    obtain ⟨fuel, hf⟩ := h2
    obtain ⟨vs, h1⟩ := Ob.ops_arg hf sz2
    exact ⟨vs, h1, trivial⟩
  clear hA0 hsz0 hsz
  refine (walk a0 a1 a2 len2 cap2 z2 W w0 w1 w2 s2).mono fun e W' ⟨he, bel⟩ => ?_
  subst he
  exact ⟨_, rfl, _, _, _, [], _, [], hW', trodAll_mk1 (shut_bool Try.underlying4 _), (trodAll_cons_mk (shut_int Try.underlying22 w0) (trodAll_cons_mk (shut_int Try.underlying3 w1) (trodAll_cons_mk (Below.trod laidOut (by kernel_rfl) (of_decide_eq_true (by kernel_rfl)) k2 bel lt2) trodAll_mk0))), rfl, bel.frame _, fun h => by cases h⟩

noncomputable def laidWorld (os : Os) : World :=
  World.holding Try.prog os ⟨#[], #[], []⟩
set_option maxRecDepth 100000 in
theorem laid_met (os : Os) : laidMet Try.prog Rows.outboxOnceRow.laid ((laidWorld os).forCall (fun _ _ => 0) ⟨#[], #[.int .u32 0, .int .i64 0, .slice none 0 0], []⟩).memory :=
  laidMet_of_run' 8 (by kernel_rfl) (by kernel_rfl)
set_option maxRecDepth 100000 in
theorem reads (os : Os) {H : Type} (enc : TypeId × Value → H) : ∃ places, DataW.whole enc Try.prog ((laidWorld os).forCall (fun _ _ => 0) ⟨#[], #[.int .u32 0, .int .i64 0, .slice none 0 0], []⟩).memory Try.f4.params.toList Rows.outboxOnceSpec.vars false #[Value.int .u32 0, Value.int .i64 0, Value.slice none 0 0].toList 8 = some ([.lit (.int .u32 0), .lit (.int .i64 0), .nil], [], places) :=
  ⟨[], by kernel_rfl⟩

set_option maxRecDepth 100000 in
theorem lifted (os : Os) (started : os.Started) (H : Type) (enc : TypeId × Value → H) (F : Stop.Interp) :
    ReturnsInHanded {} Try.checked os 4 .any ((OpenSpec.ofChange Rows.outboxOnceSpec).preRow enc Try.prog Try.f4 Rows.outboxOnceRow.domain false Rows.outboxOnceRow.laid) (((OpenSpec.ofChange Rows.outboxOnceSpec).at F).post enc Try.prog Try.f4 false true false false) := by
  obtain ⟨places, hx⟩ := reads os enc
  refine returnsInHanded_of_row (C := Try.checked) (s := OpenSpec.ofChange Rows.outboxOnceSpec) own started (by kernel_rfl) Try.func4
    (witness_row_at (enc := enc) (C := Try.checked) false (laidWorld os) #[.int .u32 0, .int .i64 0, .slice none 0 0] rfl (by kernel_rfl) (by kernel_rfl) (by kernel_rfl)
      (OpenSpec.preRow_of_cond 8 hx (by kernel_rfl) (fun k hk => by cases hk) (by kernel_rfl) (laid_met os))) ?_
  intro W base args ds gs before hval hW _ hcond hsz hL _ _
  exact contract H enc W base args ds gs before hval hW hsz

set_option maxRecDepth 100000 in
theorem said : Rows.OutboxOnceSaid :=
  OpenClaim.holds_of_cond 4 Try.f4 rfl rfl rfl rfl rfl rfl rfl ⟨rfl, rfl, rfl, rfl, rfl⟩ rfl rfl rfl rfl rfl (by kernel_rfl) Try.func4 (by kernel_rfl)
    (of_decide_eq_true (by kernel_rfl)) (by unfold Func.isWrapper; first | (rw [if_pos (by decide +kernel)]; kernel_rfl) | (rw [if_neg (by decide +kernel)]; exact ⟨rfl, rfl⟩))
    (fun os started H enc _ F => by rw [OpenClaim.pre_eq_preRow]; exact lifted os started H enc F)

/-- THE STATEMENT -/
theorem proved : Rows.OutboxOnceSaid := said
#print axioms proved
end Go.Proofs.Ytjceeckcfjjkkaa.outboxOnce
