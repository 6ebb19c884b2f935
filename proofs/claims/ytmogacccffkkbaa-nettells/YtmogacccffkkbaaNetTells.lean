/-
  What NetTells says is true for every number of paths and every run of acts: all packets are told of, delivered, lost, or on their way (P9.7). Conditions: none.
-/
import Derived.Test.YtmogacccffkkbaaRows
import Derived.WalkKit
import Derived.ProofKit
import Derived.OpenShut
import Derived.ShutString
import Derived.ChangeOld
import Derived.Below
import Derived.SizedLaws
import Derived.Deep.DeepHandedRow
import Derived.LaidLaws
import Derived.ChangeMaps5
import Derived.Test.YtmogacccffkkbaaNtAl
import Derived.Test.YtmogacccffkkbaaNtArg
namespace Go.Proofs.Ytmogacccffkkbaa.netTells
open Go.ChangeShapes Go.WideShapes Go.ChangeAt Go.RowKit
open Go.ChangeMaps (open_string shut_string)
set_option linter.unusedVariables false

theorem own : ownKnob Try.prog.godebug = none := by kernel_rfl
theorem laidOut : laidOutB Try.prog = true := by kernel_rfl

open Ba (hidden Has Only In)
/-- the number of paths stays -/
theorem act_p (o : Nt.Op) (S : Nt.St) : (Nt.act_ o S).p = S.p := by
  unfold Nt.act_ Nt.laS Nt.takeS Nt.twS Nt.spS Nt.dnS Nt.upS
  repeat' split
  all_goals rfl
set_option maxHeartbeats 4000000 in
set_option maxRecDepth 20000 in

theorem walk (a0 : Int) (a1 : Option Addr) (len1 cap1 : Nat) (z1 : List Nt.Oq) (w : World) (w0 : (Lit.int .i64 a0).wf = true) (w1 : Nt.OpsR w a1 len1 z1) :
    Calls Try.prog 4 #[.int .i64 a0, .slice a1 len1 cap1] w fun e w' => e = .returned (.bool true) ∧ Below w.heap.size w w' := by
  have AW := hidden Nt.awake
  have HZ := hidden w1
  have hlen : len1 ≤ 140737488355328 := w1.2.2.1
  by_cases hp : 1 ≤ a0 ∧ a0 ≤ 8
  · obtain ⟨p, rfl⟩ : ∃ p : Nat, a0 = (p : Int) := ⟨a0.toNat, by omega⟩
    have hpn : 1 ≤ p ∧ p ≤ 8 := by omega
    have NW := hidden (Nt.new p hpn w)
    have hI0 : Nt.Inv (Nt.fresh p) := Nt.inv_fresh hpn.2
    have HI0 := hidden hI0
    have HI0' : Hid (Nt.Inv (Nt.fresh 0)) := Nt.inv_fresh (by decide)
    have ACT : Hid (∀ (x : World) (t b : Nat) (vs : Nat → Nat → Value) (S : Nt.St) (o : Nt.Op) (a : Option Addr) (n cap : Nat), Nt.No w.heap.size x t b vs S → Below w.heap.size w x → Nt.Inv S → S.next ≤ 1000 → Nt.By w.heap.size x a n o.bs → (a = none → cap = 0) → 0 ≤ o.bits ∧ o.bits < 256 → Calls Try.prog 10 #[.pointer (some ⟨t, 0, none⟩), .pointer (some ⟨x.heap.size, 0, none⟩), .agg #[.int .i64 o.kind, .int .i64 o.en, .int .i64 o.path, .int .i64 o.i, .int .i64 o.at_, .int .i64 o.now, .int .u8 o.bits, .slice a n cap]] (x.alloc (.cells #[.slice none 0 0, .slice none 0 0, .int .i64 0] 40)) fun e' w' => ∃ β, e' = .returned (.bool β) ∧ (∃ b vs, Nt.No w.heap.size w' t b vs (Nt.act_ o S)) ∧ Below w.heap.size w w') := fun x t b vs S o a n cap hN hB hI hn hb hnil hbi => by
      have hBx : Below x.heap.size x (x.alloc (.cells #[.slice none 0 0, .slice none 0 0, .int .i64 0] 40)) := (Below.refl _ x).alloc (Nat.le_refl _) _
      have hP : Nt.Pn w.heap.size w (x.alloc (.cells #[.slice none 0 0, .slice none 0 0, .int .i64 0] 40)) t x.heap.size S (Nt.fresh 0) := ⟨⟨b, vs, hN.later hBx⟩, ⟨_, _, fun _ => 0, fun _ _ => .slice none 0 0, fun _ _ => [], ⟨hB.size, Has.new x _ _, World.ownsRow_nil _ _ _ _, World.ownsRow_nil _ _ _ _, fun i hi => absurd hi (Nat.not_lt_zero _), fun i hi => absurd hi (Nat.not_lt_zero _), fun i j hi => absurd hi (Nat.not_lt_zero _), fun i e => rfl, fun i e => World.ownsRow_nil _ _ _ _, fun i e i' e' k hk => (by cases hk), fun i e x hx => (by cases hx), fun i e => List.nodup_nil, fun i e i' e' x y hx => (by cases hx)⟩⟩, hB.trans (hBx.mono hB.size), Nat.le_refl _⟩
      refine Calls.mono (Nt.act hP hI hn HI0'.out (by decide) o (hb.later hBx) hnil hbi) ?_
      rintro e' w' ⟨β, rfl, _, hP2⟩
      exact ⟨β, rfl, hP2.c, hP2.b⟩
    clear w0 w1 hI0
    go_enter Try.func4, Try.ntmps4
    go_wp2_with fail
    refine Calls.mono NW.out ?_
    rintro e x1 ⟨t, b, rfl, hN, hB1⟩
    have HN := hidden hN
    have HB1 := hidden hB1
    clear hN hB1 NW
    go_wp2_with fail
    go_loopw [7] (fun iv wr => ∃ (q : Int) (S : Nt.St), iv = .int .i64 q ∧ Hid ((∃ b vs, Nt.No w.heap.size wr t b vs S) ∧ Below w.heap.size w wr ∧ Nt.Inv S ∧ S.next ≤ q ∧ S.p = p) ∧ 0 ≤ q ∧ q ≤ 400 ∧ q ≤ (len1 : Int)) (fun iv _ => 400 - (intOf iv).toNat)
    case atStart => exact ⟨0, Nt.fresh p, rfl, ⟨⟨b, _, HN.out⟩, HB1.out, HI0.out, Int.le_refl _, rfl⟩, by omega, by omega, by omega⟩
    case round =>
      obtain ⟨q, S, rfl, HQ, j1, j2, j3⟩ := hrel
      by_cases hgo : q < (len1 : Int) ∧ q < 400
      · obtain ⟨hq, hq2⟩ := hgo
        obtain ⟨⟨b2, vs2, hN2⟩, hB2, hI2, hn2, hp2⟩ := HQ.out
        obtain ⟨b', off, z, rfl, _, c0, c1, c2, c3, c4, c5, c6, c7, hby, hnil, hbi⟩ := HZ.out.at hB2 (j := q.toNat) (by omega)
        have hbl : b' < wr.heap.size := Ba.cell_lt c0
        have AC := hidden (ACT.out wr t b2 vs2 S z.1 z.2.1 z.2.2.1 z.2.2.2 hN2 hB2 hI2 (by omega) hby hnil hbi)
        have HNX := hidden (Nt.act_inv hI2 z.1 hby.2.1 hbi)
        have HPP : Hid ((Nt.act_ z.1 S).p = p) := (act_p z.1 S).trans hp2
        generalize z.1 = o at *
        generalize z.2.1 = za at *
        generalize z.2.2.1 = zn at *
        generalize z.2.2.2 = zc at *
        have HNQ := hidden hn2
        clear hby hnil hbi HQ hN2 hB2 hI2 hn2 hp2
        go_wp2_with fail
        refine Calls.mono AC.out ?_
        rintro e x3 ⟨β, rfl, hE3, hB3⟩
        have HP4 : Hid ((∃ b vs, Nt.No w.heap.size x3 t b vs (Nt.act_ o S)) ∧ Below w.heap.size w x3 ∧ Nt.Inv (Nt.act_ o S) ∧ (Nt.act_ o S).next ≤ q + 1 ∧ (Nt.act_ o S).p = p) := ⟨hE3, hB3, HNX.out.1, by have := HNX.out.2; have := HNQ.out; omega, HPP.out⟩
        clear hE3 hB3 AC HNX HNQ HPP c0 c1 c2 c3 c4 c5 c6 c7
        go_wp2
        go_roundw
        case rel => exact ⟨_, _, rfl, HP4.out, by omega, by omega, by omega⟩
        case measure => simp [intOf]; omega
      · obtain ⟨W9, rfl⟩ : ∃ W9, W9 = wr := ⟨_, rfl⟩
        obtain ⟨⟨b2, vs2, hN2⟩, hB2, hI2, hn2, hp2⟩ := HQ.out
        have hn3 : S.next ≤ 1000 := by omega
        have FL : Hid (∀ (x : World) (en path : Int), Below W9.heap.size W9 x → Calls Try.prog 12 #[.pointer (some ⟨t, 0, none⟩), .int .i64 en, .int .i64 path] x fun e w' => ∃ a n cap, e = .returned (.tuple #[.slice a n cap, .int .i64 (Nt.flE S en path)]) ∧ n = (Nt.flL S en path).length ∧ Below x.heap.size x w') := fun x en path hB => Calls.mono (Nt.flyingA (hN2.later hB) hI2 hn3 en path) (by
          rintro e w' ⟨a, n, cap, rfl, _, h2, h3⟩
          exact ⟨a, n, cap, rfl, h2, h3⟩)
        have TF : Hid (∀ (x : World) (en path : Int), Below W9.heap.size W9 x → Calls Try.prog 13 #[.pointer (some ⟨t, 0, none⟩), .int .i64 en, .int .i64 path] x fun e w' => e = .returned (.tuple #[.agg #[.int .i64 (Nt.flT S en path).s, .int .i64 (Nt.flT S en path).d, .int .i64 (Nt.flT S en path).l, .int .i64 (Nt.flT S en path).f], .int .i64 (Nt.flE S en path)]) ∧ Below x.heap.size x w') := fun x en path hB => Nt.trafficA (hN2.later hB) hI2.p en path
        have SUM : Hid (∀ en path : Int, 0 ≤ en → en < 2 → 0 ≤ path → path < (p : Int) → Nt.flE S en path = 0 ∧ (Nt.flT S en path).s + (Nt.flT S en path).f = (Nt.flT S en path).d + (Nt.flT S en path).l + (Nt.flL S en path).length ∧ 0 ≤ (Nt.flT S en path).s ∧ 0 ≤ (Nt.flT S en path).d ∧ 0 ≤ (Nt.flT S en path).l ∧ 0 ≤ (Nt.flT S en path).f ∧ (Nt.flT S en path).s + (Nt.flT S en path).f ≤ 1000) := fun en path e1 e2 e3 e4 => by
          have hok : Nt.ok S en path = true := Nt.ok_iff.2 ⟨⟨e1, e2⟩, e3, by rw [hp2]; exact e4⟩
          have hr := hI2.rows path.toNat en.toNat
          unfold Nt.flE Nt.flT Nt.flL
          rw [hok]
          exact ⟨rfl, hr.sum, hr.s, hr.d, hr.l, hr.f, by have := hr.few; show (S.R path.toNat en.toNat).T.s + (S.R path.toNat en.toNat).T.f ≤ 1000; omega⟩
        have HB2 := hidden hB2
        clear hN2 hB2 hI2 hn2 hp2 HQ hn3
        rcases (show (len1 : Int) ≤ q ∨ (q < (len1 : Int) ∧ 400 ≤ q) by omega) with hge | ⟨hge0, hge⟩
        · go_wp2_with fail
          go_loopw [9] (fun iv x => ∃ (pp : Int), iv = .int .i64 pp ∧ Hid (Below W9.heap.size W9 x) ∧ 0 ≤ pp ∧ pp ≤ (p : Int)) (fun iv _ => p - (intOf iv).toNat)
          case atStart => exact ⟨0, rfl, Below.refl _ _, by omega, by omega⟩
          case round =>
            obtain ⟨pp, rfl, HX, m1, m2⟩ := hrel
            by_cases hpp : pp < (p : Int)
            · go_wp2_with fail
              go_loopw [10] (fun iv x => ∃ (en : Int), iv = .int .i64 en ∧ Hid (Below W9.heap.size W9 x) ∧ 0 ≤ en ∧ en ≤ 2) (fun iv _ => 2 - (intOf iv).toNat)
              case atStart => exact ⟨0, rfl, HX.out, by omega, by omega⟩
              case round =>
                obtain ⟨en, rfl, HY, k1, k2⟩ := hrel
                by_cases hen : en < 2
                · obtain ⟨s0, s1, s2, s3, s4, s5, s6⟩ := SUM.out en pp k1 hen m1 hpp
                  have TF' := hidden (fun x hB => TF.out x en pp hB)
                  have FL' := hidden (FL.out _ en pp HY.out)
                  rw [s0] at FL' TF'
                  generalize (Nt.flT S en pp).s = ts at *
                  generalize (Nt.flT S en pp).d = td at *
                  generalize (Nt.flT S en pp).l = tl at *
                  generalize (Nt.flT S en pp).f = tf at *
                  generalize (Nt.flL S en pp).length = ln at *
                  clear s0
                  go_wp2_with fail
                  refine Calls.mono FL'.out ?_
                  rintro e y1 ⟨fa, fn, fcap, rfl, rfl, hC1⟩
                  have HC1 := hidden (HY.out.trans (hC1.mono HY.out.size))
                  have TF2 := hidden (TF'.out y1 HC1.out)
                  clear hC1 TF'
                  go_wp2_with fail
                  refine Calls.mono TF2.out ?_
                  rintro e y2 ⟨rfl, hC2⟩
                  have HC2 : Hid (∀ o, Below W9.heap.size W9 (y2.alloc o)) := fun o => (HC1.out.trans (hC2.mono HC1.out.size)).alloc (Nat.le_trans HC1.out.size hC2.size) o
                  have hsum : (ts + tf == td + tl + (fn : Int)) = true := beq_iff_eq.2 s1
                  clear hC2 TF2
                  go_wp2
                  go_roundw
                  case rel => exact ⟨_, rfl, HC2.out _, by omega, by omega⟩
                  case measure => simp [intOf]; omega
                · go_wp2
                  go_roundw
                  case rel => exact ⟨_, rfl, HY.out, by omega, by omega⟩
                  case measure => simp [intOf]; omega
            · go_wp2_with fail
              refine Calls.mono (AW.out _) ?_
              rintro e y3 ⟨rfl, hB3⟩
              have HF := hidden ((HB2.out.trans (HX.out.mono HB2.out.size)).trans (hB3.mono (Nat.le_trans HB2.out.size HX.out.size)))
              clear hB3
              go_wp2
              go_ret
              exact ⟨rfl, HF.out⟩
        · go_wp2_with fail
          go_loopw [9] (fun iv x => ∃ (pp : Int), iv = .int .i64 pp ∧ Hid (Below W9.heap.size W9 x) ∧ 0 ≤ pp ∧ pp ≤ (p : Int)) (fun iv _ => p - (intOf iv).toNat)
          case atStart => exact ⟨0, rfl, Below.refl _ _, by omega, by omega⟩
          case round =>
            obtain ⟨pp, rfl, HX, m1, m2⟩ := hrel
            by_cases hpp : pp < (p : Int)
            · go_wp2_with fail
              go_loopw [10] (fun iv x => ∃ (en : Int), iv = .int .i64 en ∧ Hid (Below W9.heap.size W9 x) ∧ 0 ≤ en ∧ en ≤ 2) (fun iv _ => 2 - (intOf iv).toNat)
              case atStart => exact ⟨0, rfl, HX.out, by omega, by omega⟩
              case round =>
                obtain ⟨en, rfl, HY, k1, k2⟩ := hrel
                by_cases hen : en < 2
                · obtain ⟨s0, s1, s2, s3, s4, s5, s6⟩ := SUM.out en pp k1 hen m1 hpp
                  have TF' := hidden (fun x hB => TF.out x en pp hB)
                  have FL' := hidden (FL.out _ en pp HY.out)
                  rw [s0] at FL' TF'
                  generalize (Nt.flT S en pp).s = ts at *
                  generalize (Nt.flT S en pp).d = td at *
                  generalize (Nt.flT S en pp).l = tl at *
                  generalize (Nt.flT S en pp).f = tf at *
                  generalize (Nt.flL S en pp).length = ln at *
                  clear s0
                  go_wp2_with fail
                  refine Calls.mono FL'.out ?_
                  rintro e y1 ⟨fa, fn, fcap, rfl, rfl, hC1⟩
                  have HC1 := hidden (HY.out.trans (hC1.mono HY.out.size))
                  have TF2 := hidden (TF'.out y1 HC1.out)
                  clear hC1 TF'
                  go_wp2_with fail
                  refine Calls.mono TF2.out ?_
                  rintro e y2 ⟨rfl, hC2⟩
                  have HC2 : Hid (∀ o, Below W9.heap.size W9 (y2.alloc o)) := fun o => (HC1.out.trans (hC2.mono HC1.out.size)).alloc (Nat.le_trans HC1.out.size hC2.size) o
                  have hsum : (ts + tf == td + tl + (fn : Int)) = true := beq_iff_eq.2 s1
                  clear hC2 TF2
                  go_wp2
                  go_roundw
                  case rel => exact ⟨_, rfl, HC2.out _, by omega, by omega⟩
                  case measure => simp [intOf]; omega
                · go_wp2
                  go_roundw
                  case rel => exact ⟨_, rfl, HY.out, by omega, by omega⟩
                  case measure => simp [intOf]; omega
            · go_wp2_with fail
              refine Calls.mono (AW.out _) ?_
              rintro e y3 ⟨rfl, hB3⟩
              have HF := hidden ((HB2.out.trans (HX.out.mono HB2.out.size)).trans (hB3.mono (Nat.le_trans HB2.out.size HX.out.size)))
              clear hB3
              go_wp2
              go_ret
              exact ⟨rfl, HF.out⟩
  · have NW := hidden (Nt.new_no a0 hp w)
    clear w0 w1
    by_cases hneg : a0 < 1
    · go_enter Try.func4, Try.ntmps4
      go_wp2_with fail
      refine Calls.mono NW.out ?_
      rintro e x1 ⟨rfl, rfl⟩
      go_wp2_with fail
      refine Calls.mono (AW.out _) ?_
      rintro e x3 ⟨rfl, hB3⟩
      have HF := hidden hB3
      clear hB3
      go_wp2
      go_ret
      exact ⟨by simp, HF.out⟩
    · have hbig : 8 < a0 := by omega
      go_enter Try.func4, Try.ntmps4
      go_wp2_with fail
      refine Calls.mono NW.out ?_
      rintro e x1 ⟨rfl, rfl⟩
      go_wp2_with fail
      refine Calls.mono (AW.out _) ?_
      rintro e x3 ⟨rfl, hB3⟩
      have HF := hidden hB3
      clear hB3
      go_wp2
      go_ret
      exact ⟨by simp, HF.out⟩

set_option maxRecDepth 100000 in
theorem contract (H : Type) (enc : TypeId × Value → H) (W : World) (base : Nat) (args : Array Value) (ds gs : List (DataW H)) (before : List MemPlace)
    (hval : ∀ (j : Nat) t v, Try.f4.params[j]? = some t → args[j]? = some v → Value.okWide Try.prog W .any base t v)
    (hW : DataW.Whole enc Try.prog Try.f4.params.toList Rows.netTellsSpec.vars false W args.toList ds gs before)
    (hsz0 : (DataW.weightsEach Try.prog (Try.f4.params.toList ++ Rows.netTellsSpec.plain.varTypes Try.prog) (ds ++ gs)).all (· ≤ reachBytes) = true) :
    Calls Try.prog 4 args W fun e W' => ∃ v, e = .returned v ∧ Rows.netTellsSpec.post enc Try.prog Try.f4 false true false false W args v W' := by
  have hW' := hW
  obtain ⟨p, q, hA0, hV, rfl, hfz, hnd⟩ := hW
  have hA : DataW.TrodAll enc Try.prog W 0 (fun _ => true) true Try.f4.params.toList args.toList ds p := hA0
  have hsz := hsz0
  rw [Try.params4] at hA hval hsz
  obtain ⟨v0, vs0, d0, ds0, p0, q0, hargs, rfl, rfl, h0, r0⟩ := trodAll_cons hA
  obtain ⟨v1, vs1, d1, ds1, p1, q1, rfl, rfl, rfl, h1, r1⟩ := trodAll_cons r0
  obtain ⟨rfl, rfl, rfl⟩ := trodAll_nil r1
  obtain rfl : args = #[v0, v1] := by cases args; simp_all
  obtain ⟨rfl, rfl⟩ := trodVars_none hV
  obtain ⟨a0, rfl, rfl, rfl, w0⟩ := open_int Try.underlying3 (hval 0 3 v0 rfl rfl) h0
  obtain ⟨a1, len1, cap1, rfl⟩ := okWide_slice Try.underlying22 (hval 1 22 v1 rfl rfl)
  have k1 := h1
  have lt1 : ∀ x ∈ p1, x.block < W.heap.size := by obtain ⟨m, hm⟩ := k1; exact DataW.trod_lt m _ _ _ hm
  have sz1 : (d1.weights Try.prog 22).all (· ≤ reachBytes) = true := List.all_eq_true.2 fun m hm => List.all_eq_true.1 hsz m (DataW.weights_mem_each (j := 1) rfl rfl m hm)
  obtain ⟨z1, w1⟩ : ∃ zs, Nt.OpsR W a1 len1 zs := by
    obtain ⟨fuel, hf⟩ := h1
    exact Nt.ops_arg hf sz1
  clear hA0 hsz0 hsz
  refine (walk a0 a1 len1 cap1 z1 W w0 w1).mono fun e W' ⟨he, bel⟩ => ?_
  subst he
  exact ⟨_, rfl, _, _, _, [], _, [], hW', trodAll_mk1 (shut_bool Try.underlying4 _), (trodAll_cons_mk (shut_int Try.underlying3 w0) (trodAll_cons_mk (Below.trod laidOut (by kernel_rfl) (of_decide_eq_true (by kernel_rfl)) k1 bel lt1) trodAll_mk0)), rfl, bel.frame _, fun h => by cases h⟩

noncomputable def laidWorld (os : Os) : World :=
  World.holding Try.prog os ⟨#[], #[], []⟩
theorem laid_met (os : Os) : laidMet Try.prog Rows.netTellsRow.laid ((laidWorld os).forCall (fun _ _ => 0) ⟨#[], #[.int .i64 0, .slice none 0 0], []⟩).memory :=
  laidMet_of_run' 8 (by kernel_rfl) (by kernel_rfl)
theorem reads (os : Os) {H : Type} (enc : TypeId × Value → H) : ∃ places, DataW.whole enc Try.prog ((laidWorld os).forCall (fun _ _ => 0) ⟨#[], #[.int .i64 0, .slice none 0 0], []⟩).memory Try.f4.params.toList Rows.netTellsSpec.vars false #[Value.int .i64 0, Value.slice none 0 0].toList 8 = some ([.lit (.int .i64 0), .nil], [], places) :=
  ⟨[], by kernel_rfl⟩

set_option maxRecDepth 100000 in
theorem lifted (os : Os) (started : os.Started) (H : Type) (enc : TypeId × Value → H) (F : Stop.Interp) :
    ReturnsInHanded {} Try.checked os 4 .any ((OpenSpec.ofChange Rows.netTellsSpec).preRow enc Try.prog Try.f4 Rows.netTellsRow.domain false Rows.netTellsRow.laid) (((OpenSpec.ofChange Rows.netTellsSpec).at F).post enc Try.prog Try.f4 false true false false) := by
  obtain ⟨places, hx⟩ := reads os enc
  refine returnsInHanded_of_row (C := Try.checked) (s := OpenSpec.ofChange Rows.netTellsSpec) own started (by kernel_rfl) Try.func4
    (witness_row_at (enc := enc) (C := Try.checked) false (laidWorld os) #[.int .i64 0, .slice none 0 0] rfl (by kernel_rfl) (by kernel_rfl) (by kernel_rfl)
      (OpenSpec.preRow_of_cond 8 hx (by kernel_rfl) (fun k hk => by cases hk) (by kernel_rfl) (laid_met os))) ?_
  intro W base args ds gs before hval hW _ hcond hsz hL _ _
  exact contract H enc W base args ds gs before hval hW hsz

theorem said : Rows.NetTellsSaid :=
  OpenClaim.holds_of_cond 4 Try.f4 rfl rfl rfl rfl rfl rfl rfl ⟨rfl, rfl, rfl, rfl, rfl⟩ rfl rfl rfl rfl rfl (by kernel_rfl) Try.func4 (by kernel_rfl)
    (of_decide_eq_true (by kernel_rfl)) (by unfold Func.isWrapper; first | (rw [if_pos (by decide +kernel)]; kernel_rfl) | (rw [if_neg (by decide +kernel)]; exact ⟨rfl, rfl⟩))
    (fun os started H enc _ F => by rw [OpenClaim.pre_eq_preRow]; exact lifted os started H enc F)

/-- THE STATEMENT -/
theorem proved : Rows.NetTellsSaid := said
#print axioms proved
end Go.Proofs.Ytmogacccffkkbaa.netTells
