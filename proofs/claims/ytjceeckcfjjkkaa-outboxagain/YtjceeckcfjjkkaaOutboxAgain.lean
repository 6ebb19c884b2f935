/-
  A report that comes once more tells of nothing new, and changes nothing, for every first number, number of paths, row of acts, report and time.
  Conditions: none.
-/
import Derived.Test.YtjceeckcfjjkkaaRows
import Derived.WalkKit
import Derived.ProofKit
import Derived.OpenShut
import Derived.ShutString
import Derived.ChangeOld
import Derived.Below
import Derived.SizedLaws
import Derived.Deep.DeepHandedRow
import Derived.LaidLaws
import Derived.ChangeMaps5
import Derived.Test.YtjceeckcfjjkkaaOeT
import Derived.Test.YtjceeckcfjjkkaaOcA
import Derived.Test.YtjceeckcfjjkkaaAg
import Derived.Test.YtjceeckcfjjkkaaOcArgs
import Derived.Deep.CutBlock
import Derived.Deep.CutRange
import Derived.Deep.LoopGhost
namespace Go.Proofs.Ytjceeckcfjjkkaa.outboxAgain
open Go.ChangeShapes Go.WideShapes Go.ChangeAt Go.RowKit
open Go.ChangeMaps (open_string shut_string)
set_option linter.unusedVariables false

theorem own : ownKnob Try.prog.godebug = none := by kernel_rfl
theorem laidOut : laidOutB Try.prog = true := by kernel_rfl

open Ba (hidden Has cell_lt)
open Ob
theorem rq_at {w0 : World} {q : QA} (h : OkQ w0 q) {ts : Int} (ht : 0 ≤ ts ∧ ts < 4294967296) : Rp (fun k => k < w0.heap.size) w0 { q.c with tsn := ts } ⟨q.c.kd, ts, q.gs, q.nr⟩ :=
  ⟨rfl, rfl, ht.1, ht.2, h.g.cl, h.n.cl, h.l, h.m⟩
theorem told_no {D : Nat → Prop} {base t f n : Nat} {w w' : World} {v rv : Value} {L L' : List Ch} {P : List CV} {nx m : Int} {fs : Nat → Int} (h : Ob.Told base w v L) (hN : No D w t f rv P nx n L' fs m) (hm : Mod (FC t f rv) w w') : Ob.Told base w' v L := by
  obtain ⟨ps, h1, h2, h3, h4⟩ := h
  refine ⟨ps, h1.stay hm (fun k hk e => ?_), h2, fun p hp => (h3 p hp).stay hm (fun k hk e => ?_), h4⟩
  · obtain ⟨cu, hh⟩ := h1.obj hk
    obtain ⟨cs', ty', hh', e'⟩ := hN.type e
    have := has_type hh hh'
    subst this
    rcases e' with e' | e' | e' <;> exact absurd e' (by decide)
  · obtain ⟨cu, h5, _⟩ := (h3 p hp).obj hk
    exact hN.bytes h5 e
set_option maxRecDepth 20000 in
set_option maxHeartbeats 40000000 in

theorem walk (a0 : Int) (a1 : Int) (a2 : Option Addr) (len2 cap2 : Nat) (z2 : List Ob.OA) (q3 : Ob.QA) (a4 : Int) (a5 : Int) (w : World) (w0 : (Lit.int .u32 a0).wf = true) (w1 : (Lit.int .i64 a1).wf = true) (w2 : Ob.Ops w a2 len2 z2) (s2 : True) (w3 : Ob.OkQ w q3) (s3 : True) (w4 : (Lit.int .u32 a4).wf = true) (w5 : (Lit.int .i64 a5).wf = true) :
    Calls Try.prog 6 #[.int .u32 a0, .int .i64 a1, .slice a2 len2 cap2, Ob.kv q3.c, .int .u32 a4, .int .i64 a5] w fun e w' => e = .returned (.bool true) ∧ Below w.heap.size w w' := by
  have HU0 := hidden (Ob.u32_bounds w0)
  have HU4 := hidden (Ob.u32_bounds w4)
  have HS := hidden w2
  have HQ3 := hidden w3
  obtain ⟨W1, hW1⟩ : ∃ W1, W1 = w.alloc (.cells (kcs q3.c) 48) := ⟨_, rfl⟩
  have hb1 : Has W1 w.heap.size (kcs q3.c) 48 := by rw [hW1]; exact Has.new w _ _
  have hBW : Below w.heap.size w W1 := by rw [hW1]; exact (Below.refl _ w).alloc (Nat.le_refl _) _
  have hs1 : W1.heap.size = w.heap.size + 1 := by rw [hW1]; simp
  have HW := hidden (And.intro hb1 (And.intro hBW hs1))
  unfold kcs at hW1
  have HW1 := hidden hW1
  clear w0 w1 w2 s2 w3 s3 w4 w5 hb1 hBW hs1 hW1
  unfold kv kcs
  by_cases hn : 1 ≤ a1 ∧ a1 ≤ 8
  case neg =>
    have N := hidden (Ob.new_no a0 a1 hn W1)
    have R := hidden (Ob.r_new_no a0 a1 hn W1)
    have AL := hidden (Ob.alive W1)
    clear hn
    go_enter Try.func6, Try.ntmps6
    go_wp2_with fail
    rw [← HW1.out]
    refine Calls.mono N.out ?_
    rintro e w' ⟨rfl, rfl⟩
    go_wp2_with fail
    refine Calls.mono R.out ?_
    rintro e w' ⟨rfl, rfl⟩
    go_wp2_with fail
    refine Calls.mono AL.out ?_
    rintro e x1 ⟨rfl, hB⟩
    go_wp2
    go_ret
    exact ⟨rfl, HW.out.2.1.trans (hB.mono HW.out.2.1.size)⟩
  case pos =>
    obtain ⟨m, rfl⟩ : ∃ m : Nat, a1 = m := ⟨a1.toNat, by omega⟩
    have N := hidden (Ob.new (fun k => W1.heap.size ≤ k) a0 m HU0.out hn.1 hn.2 W1)
    have R := hidden (fun X => Ob.r_new (fun k => W1.heap.size ≤ k) a0 m hn.1 hn.2 X)
    have HN := hidden hn
    clear hn
    go_enter Try.func6, Try.ntmps6
    go_wp2_with fail
    rw [← HW1.out]
    refine Calls.mono N.out ?_
    rintro e x1 ⟨t, rfl, ⟨F, hC, hF⟩, hB1⟩
    have H1 := hidden (And.intro hC (And.intro hF hB1))
    clear hC hF hB1
    go_wp2_with fail
    refine Calls.mono (R.out x1) ?_
    rintro e x2 ⟨r, rfl, hR, hr, hB2⟩
    have HB0 := hidden (Bx.new HN.out.1 H1.out.1 H1.out.2.1 H1.out.2.2 hR hr hB2)
    have HG0 := hidden (Ob.Good.new HU0.out HN.out)
    clear hR hr hB2 H1 N R
    go_upto_block 0 with fail
    go_cut [] from 300 (fun wx => ∃ (k : Nat) (S : St), Hid (k ≤ 120 ∧ Bx W1 wx t r S ∧ Ob.Good k S ∧ S.n = m))
    case first =>
      go_wp2_with fail
      go_loopw [17] (fun i X => ∃ (k : Nat) (S : St), i = .int .i64 (k : Int) ∧ k ≤ len2 ∧ k ≤ 120 ∧ Hid (Bx W1 X t r S ∧ Ob.Good k S ∧ S.n = m)) (fun i X => 120 - (intOf i).toNat)
      case atStart => exact ⟨0, newS a0 m, rfl, Nat.zero_le _, by omega, HB0.out, HG0.out, by show (m : Int).toNat = m; omega⟩
      case round =>
        obtain ⟨k, S, rfl, hk2, hk120, HI⟩ := hrel
        have hwk : IntKind.i64.wrap ((k : Int) + 1) = (k : Int) + 1 := by rw [IntKind.wrap_i64]; omega
        by_cases hl2 : (k : Int) < (len2 : Int)
        case neg =>
          go_wp2_with fail
          go_meet
          case rel => exact ⟨k, S, hk120, HI.out.1, HI.out.2.1, HI.out.2.2⟩
        case pos =>
          by_cases hl120 : (k : Int) < 120
          case neg =>
            go_wp2_with fail
            go_meet
            case rel => exact ⟨k, S, hk120, HI.out.1, HI.out.2.1, HI.out.2.2⟩
          case pos =>
            obtain ⟨b, off, o, hao, hz, hok, hcells⟩ := op_at HS.out (HW.out.2.1.trans (HI.out.1.bl.mono HW.out.2.1.size)) (j := k) (by omega)
            have LD := hidden (load26 hcells)
            have AC := act HI.out.1 HI.out.2.1 (by omega) o (hok.later HW.out.2.1)
            subst hao
            have AC := hidden AC
            clear hcells hz hok
            go_wp2_with (refine wpList_ld rfl 50 _ rfl _ rfl _ LD.out ?_)
            refine Calls.mono AC.out ?_
            rintro e X2 ⟨S', fq, ra, rl, rc, rn, rfl, hst, hG2, hB2⟩
            have HNX : Hid (Bx W1 X2 t r S' ∧ Ob.Good (k + 1) S' ∧ S'.n = m) := ⟨hB2, hG2, by rcases hst with ⟨_, h, _⟩ | ⟨_, h, _⟩ <;> rw [h] <;> exact HI.out.2.2⟩
            clear hst hG2 hB2 AC LD
            go_wp2
            go_roundw
            case rel => exact ⟨k + 1, S', by simp, by omega, by omega, HNX.out⟩
            case measure => simp only [intOf]; omega
    case rest =>
      obtain ⟨k, S, HI⟩ := hcut
      obtain ⟨f, rv, P, hN, hFC⟩ := HI.out.2.1.no
      have HNO := hidden (And.intro hN hFC)
      have hcu := Ob.cum hN (by have := HI.out.2.2.1.len; have := HI.out.2.2.1.k; omega)
      have e1 : (nextS S - (S.L.length : Int) - 1) % 4294967296 = S.c := by have := HI.out.2.2.1.c0; have := HI.out.2.2.1.c1; unfold nextS; omega
      rw [e1] at hcu
      have CU := hidden hcu
      obtain ⟨ts, hts⟩ : ∃ ts, ts = (S.c + a4) % 4294967296 := ⟨_, rfl⟩
      have HTS : Hid (0 ≤ ts ∧ ts < 4294967296) := by show _ ∧ _; omega
      have AD : Hid (∀ X, Calls Try.prog 21 #[.int .u32 S.c, .int .u32 a4] X fun e w' => e = .returned (.int .u32 ts) ∧ X = w') := fun X => by
        rw [hts]
        exact Ser.radd S.c a4 ⟨HI.out.2.2.1.c0, HI.out.2.2.1.c1⟩ HU4.out X
      clear hN hFC hcu e1 hts
      go_wp2_with fail
      refine Calls.mono CU.out ?_
      rintro e x3 ⟨rfl, nd, rfl⟩
      obtain ⟨x3, hx3⟩ : ∃ x3, x3 = wc.drewN nd := ⟨_, rfl⟩
      have hB3 : Below wc.heap.size wc x3 := by rw [hx3]; exact Ob.Below.drewN (Below.refl _ _) nd
      have hbx := (HW.out.1.later HI.out.2.1.bl).later hB3
      have HBX := hidden hbx
      have HNO3 := hidden (And.intro (HNO.out.1.later hB3) HNO.out.2)
      have HBW : Hid (Below w.heap.size w x3) := HW.out.2.1.trans ((HI.out.2.1.bl.trans (hB3.mono HI.out.2.1.bl.size)).mono HW.out.2.1.size)
      have HSZ : Hid (W1.heap.size ≤ x3.heap.size) := Nat.le_trans HI.out.2.1.bl.size hB3.size
      rw [← hx3]
      have k2 := hbx.cell 2 (v := .int .u32 q3.c.tsn) rfl
      have kf := hbx.frozen
      clear hx3 hB3 hbx CU HNO
      go_wp2_with fail
      refine Calls.mono (AD.out _) ?_
      rintro e x4 ⟨rfl, rfl⟩
      go_upto_region 10 with fail
      obtain ⟨W4, hW4⟩ : ∃ W4, W4 = x3.setCell ⟨w.heap.size, 2, none⟩ (.int .u32 ts) := ⟨_, rfl⟩
      have hm4 : Mod (fun k => k = w.heap.size) x3 W4 := by rw [hW4]; exact Mod.setCell (F := fun k => k = w.heap.size) x3 (p := ⟨w.heap.size, 2, none⟩) rfl _
      have HBX4 : Hid (Has W4 w.heap.size (kcs { q3.c with tsn := ts }) 48) := by rw [hW4]; exact HBX.out.set 2 (.int .u32 ts)
      have HN4 := hidden (And.intro (HNO3.out.1.stay hm4 (fun k hk e => by have := HNO3.out.2 k hk; have := HW.out.2.2; omega) (fun k cur _ hh e => by subst e; exact hh.ne HBX.out (by decide) rfl)) HNO3.out.2)
      have HBW4 : Hid (Below w.heap.size w W4) := HBW.out.trans (hm4.below HBW.out.size (fun j hj => by omega))
      rw [← hW4]
      clear hW4 hm4 k2 kf HBX HNO3 HBW HSZ AD
      obtain ⟨q, hq⟩ : ∃ q : Rq, q = ⟨q3.c.kd, ts, q3.gs, q3.nr⟩ := ⟨_, rfl⟩
      have HRP : Hid (Rp (fun k => k < w.heap.size) w { q3.c with tsn := ts } q) := by rw [hq]; exact rq_at HQ3.out HTS.out
      have HQT : Hid (0 ≤ q.tsn ∧ q.tsn < 4294967296) := by rw [hq]; exact HTS.out
      clear hq
      have TC := Ob.report (now := a5) HN4.out.1 HI.out.2.2.1 (HRP.out.later HBW4.out) (fun k hk => Nat.lt_of_lt_of_le hk HBW4.out.size)
      unfold kv kcs at TC
      dsimp only at TC
      have TC := hidden TC
      have k0 := HBX4.out.cell 0 (v := .int .u8 q3.c.kd) rfl
      have k1 := HBX4.out.cell 1 (v := .int .u8 q3.c.fg) rfl
      have k2 := HBX4.out.cell 2 (v := .int .u32 ts) rfl
      have k3 := HBX4.out.cell 3 (v := .int .u16 q3.c.sm) rfl
      have k4 := HBX4.out.cell 4 (v := .int .u16 q3.c.sn) rfl
      have k5 := HBX4.out.cell 5 (v := .int .u32 q3.c.pr) rfl
      have k6 := HBX4.out.cell 6 (v := .int .u32 q3.c.tag) rfl
      have k7 := HBX4.out.cell 7 (v := .int .u32 q3.c.win) rfl
      have k8 := HBX4.out.cell 8 (v := .int .u16 q3.c.out) rfl
      have k9 := HBX4.out.cell 9 (v := .int .u16 q3.c.inn) rfl
      have k10 := HBX4.out.cell 10 (v := .slice q3.c.ga q3.c.gl q3.c.gc) rfl
      have k11 := HBX4.out.cell 11 (v := .slice q3.c.na q3.c.nl q3.c.nc) rfl
      have k12 := HBX4.out.cell 12 (v := .slice q3.c.da q3.c.dl q3.c.dc) rfl
      have k13 := HBX4.out.cell 13 (v := .slice q3.c.ba q3.c.bl q3.c.bc) rfl
      have k14 := HBX4.out.cell 14 (v := .slice q3.c.pa q3.c.pl q3.c.pc) rfl
      go_wp2_with fail
      clear k0 k1 k2 k3 k4 k5 k6 k7 k8 k9 k10 k11 k12 k13 k14
      refine Calls.mono TC.out ?_
      rintro e X5 hO
      rcases hO with ⟨he, rfl, hB⟩ | ⟨he, ap, rfl, hap, haw, ⟨rv', hN', hown⟩, hm⟩
      · have hz : (repE S q a5 == 0) = false := by simp [he]
        obtain ⟨ec, hec⟩ : ∃ ec, ec = repE S q a5 := ⟨_, rfl⟩
        rw [← hec] at hz ⊢
        have HB5 := hidden (HBW4.out.trans (hB.mono HBW4.out.size))
        rw [← hec] at he
        clear hec hB TC
        go_upto_region 12 with fail
        obtain ⟨W6, hW6⟩ : ∃ W6, W6 = X5.alloc (.cells #[.slice none 0 0, .int .i64 0, .int .i64 0] 34) := ⟨_, rfl⟩
        have HB6 : Hid (Below w.heap.size w W6) := by rw [hW6]; exact HB5.out.alloc HB5.out.size _
        rw [← hW6]
        have AL := hidden (Ob.alive W6)
        clear hW6
        go_wp2_with fail
        refine Calls.mono AL.out ?_
        rintro e x7 ⟨rfl, hB7⟩
        go_wp2
        go_ret
        exact ⟨rfl, HB6.out.trans (hB7.mono HB6.out.size)⟩
      · obtain ⟨P5, hN5⟩ := hN'
        have HE := hidden he
        obtain ⟨S1, hS1⟩ : ∃ S1, S1 = repS S q := ⟨_, rfl⟩
        have hn1 : S1.n = S.n := by rw [hS1]; rfl
        rw [← hn1, ← hS1] at hN5
        have HG1 : Hid (Ob.Good (k + 1) S1) := by rw [hS1]; exact HI.out.2.2.1.rep (by have := HI.out.1; omega) q a5 HQT.out he
        have HE1 : Hid (repE S1 q a5 = 0 ∧ repS S1 q = S1 ∧ frV (tlS S1 q) (gdS S1 q) S1.L = 0 ∧ rnV (tlS S1 q) S1.L = 0 ∧ ∀ p : Int, akV (tlS S1 q) (gdS S1 q) a5 S1.L p = ⟨0, false, -1, 0⟩) := by
          rw [hS1]
          exact ⟨repE_again he, rep_again S q, (done_again S q).fr, (done_again S q).rn, fun p => (done_again S q).ak a5 p⟩
        have HNM : Hid (S1.n = m) := hn1.trans HI.out.2.2.2
        have HN5 : Hid (No (fun k => W1.heap.size ≤ k) X5 t f rv' P5 (nextS S1) S1.n S1.L (fun k => fl S1.L k) (Ob.mk S1.L) ∧ ∀ k, FC t f rv' k → W1.heap.size ≤ k) := ⟨hN5, fun k hk => by
          rcases hk with rfl | rfl | hk
          · exact HN4.out.2 k (.inl rfl)
          · exact HN4.out.2 k (.inr (.inl rfl))
          · exact HN4.out.2 k (.inr (.inr (hown k hk)))⟩
        have HBX5 : Hid (Has X5 w.heap.size (kcs { q3.c with tsn := ts }) 48) := HN4.out.1.far HBX4.out (by decide) hm
        have HBW5 : Hid (Below w.heap.size w X5) := HBW4.out.trans (hm.below HBW4.out.size (fun j hj => by have := HN4.out.2 j hj; have := HW.out.2.2; omega))
        obtain ⟨fr0, hfr0⟩ : ∃ fr0, fr0 = frV (tlS S q) (gdS S q) S.L := ⟨_, rfl⟩
        obtain ⟨rn0, hrn0⟩ : ∃ rn0, rn0 = rnV (tlS S q) S.L := ⟨_, rfl⟩
        obtain ⟨n0, hn0⟩ : ∃ n0, n0 = S.n := ⟨_, rfl⟩
        rw [← hfr0, ← hrn0, ← hn0]
        clear hS1 hn1 hN5 hown haw hap he hm hfr0 hrn0 hn0 TC HN4 HBX4 HBW4
        go_upto_region 11 with fail
        obtain ⟨W6, hW6⟩ : ∃ W6, W6 = X5.alloc (.cells #[.slice (some ⟨ap, 0, none⟩) n0 n0, .int .i64 fr0, .int .i64 rn0] 34) := ⟨_, rfl⟩
        have hB6 : Below X5.heap.size X5 W6 := by rw [hW6]; exact (Below.refl _ _).alloc (Nat.le_refl _) _
        have HN6 := hidden (And.intro (HN5.out.1.later hB6) HN5.out.2)
        have HBX6 := hidden (HBX5.out.later hB6)
        have HBW6 := hidden (HBW5.out.trans (hB6.mono HBW5.out.size))
        rw [← hW6]
        have AV := hidden (Ob.all HN6.out.1 (by have := HG1.out.len; have := HG1.out.k; omega) (fun x hx => (HG1.out.ch x hx).d1))
        clear hW6 hB6 HN5 HBX5 HBW5
        go_wp2_with fail
        refine Calls.mono AV.out ?_
        rintro e X7 ⟨v7, rfl, hT, hB7⟩
        have HTO := hidden (hT.later (Below.refl _ X7))
        have HLS := hidden hT.ls
        have HN7 := hidden (And.intro (HN6.out.1.later hB7) HN6.out.2)
        have HBX7 := hidden (HBX6.out.later hB7)
        have HBW7 := hidden (HBW6.out.trans (hB7.mono HBW6.out.size))
        obtain ⟨va, vc, hv, _⟩ := HLS.out
        obtain ⟨z, hzl⟩ : ∃ z, z = S1.L.length := ⟨_, rfl⟩
        rw [← hzl] at hv
        subst hv
        clear hT hB7 AV HN6 HBX6 HBW6 hzl
        have k10 := HBX7.out.cell 10 (v := .slice q3.c.ga q3.c.gl q3.c.gc) rfl
        have k11 := HBX7.out.cell 11 (v := .slice q3.c.na q3.c.nl q3.c.nc) rfl
        obtain ⟨gl, hgl⟩ : ∃ gl, gl = q3.c.gl := ⟨_, rfl⟩
        obtain ⟨nl, hnl⟩ : ∃ nl, nl = q3.c.nl := ⟨_, rfl⟩
        rw [← hgl] at k10
        rw [← hnl] at k11
        clear hgl hnl
        go_upto_region 14 with fail
        go_cut [99] from 300 (fun s wx => ∃ bq : Bool, s = .bool bq ∧ Hid (X7 = wx))
        case first =>
          by_cases h4 : 0 < a4
          · by_cases hg : (0 : Int) < (gl : Int)
            · go_wp2_with fail
              go_meet
              case rel => exact ⟨true, rfl, rfl⟩
            · have hgb : decide ((0 : Int) < (gl : Int)) = false := decide_eq_false hg
              clear hg
              go_wp2_with fail
              all_goals (go_meet; exact ⟨_, rfl, rfl⟩)
          · go_wp2_with fail
            go_meet
            case rel => exact ⟨false, rfl, rfl⟩
        case rest =>
          obtain ⟨bq, rfl, hw⟩ := hcut
          have hw := hw.out
          subst hw
          clear k10 k11
          cases bq with
          | true =>
            have AL := hidden (Ob.alive X7)
            go_wp2_with fail
            refine Calls.mono AL.out ?_
            rintro e x8 ⟨rfl, hB8⟩
            go_wp2
            go_ret
            exact ⟨rfl, HBW7.out.trans (hB8.mono HBW7.out.size)⟩
          | false =>
            have TD := Ob.report (now := a5) HN7.out.1 HG1.out (HRP.out.later HBW7.out) (fun k hk => Nat.lt_of_lt_of_le hk HBW7.out.size)
            unfold kv kcs at TD
            dsimp only at TD
            have TD := hidden TD
            have k0 := HBX7.out.cell 0 (v := .int .u8 q3.c.kd) rfl
            have k1 := HBX7.out.cell 1 (v := .int .u8 q3.c.fg) rfl
            have k2 := HBX7.out.cell 2 (v := .int .u32 ts) rfl
            have k3 := HBX7.out.cell 3 (v := .int .u16 q3.c.sm) rfl
            have k4 := HBX7.out.cell 4 (v := .int .u16 q3.c.sn) rfl
            have k5 := HBX7.out.cell 5 (v := .int .u32 q3.c.pr) rfl
            have k6 := HBX7.out.cell 6 (v := .int .u32 q3.c.tag) rfl
            have k7 := HBX7.out.cell 7 (v := .int .u32 q3.c.win) rfl
            have k8 := HBX7.out.cell 8 (v := .int .u16 q3.c.out) rfl
            have k9 := HBX7.out.cell 9 (v := .int .u16 q3.c.inn) rfl
            have k10 := HBX7.out.cell 10 (v := .slice q3.c.ga q3.c.gl q3.c.gc) rfl
            have k11 := HBX7.out.cell 11 (v := .slice q3.c.na q3.c.nl q3.c.nc) rfl
            have k12 := HBX7.out.cell 12 (v := .slice q3.c.da q3.c.dl q3.c.dc) rfl
            have k13 := HBX7.out.cell 13 (v := .slice q3.c.ba q3.c.bl q3.c.bc) rfl
            have k14 := HBX7.out.cell 14 (v := .slice q3.c.pa q3.c.pl q3.c.pc) rfl
            go_wp2_with fail
            clear k0 k1 k2 k3 k4 k5 k6 k7 k8 k9 k10 k11 k12 k13 k14
            refine Calls.mono TD.out ?_
            rintro e X8 hO
            rcases hO with ⟨he, _⟩ | ⟨he, ap2, rfl, hap, haw, ⟨rv2, ⟨P8, hN8⟩, hown⟩, hm⟩
            · exact absurd HE1.out.1 he
            rw [HE1.out.2.1] at hN8
            rw [HE1.out.2.2.1, HE1.out.2.2.2.1, HNM.out]
            rw [HNM.out] at haw
            have HAW : Hid (Aw X8 ap2 m (fun _ => ⟨0, false, -1, 0⟩)) := haw.congr (fun i _ => HE1.out.2.2.2.2 i)
            have HN8 := hidden hN8
            have HBW8 : Hid (Below w.heap.size w X8) := HBW7.out.trans (hm.below HBW7.out.size (fun j hj => by have := HN7.out.2 j hj; have := HW.out.2.2; omega))
            have HLS8 : Hid (∃ cs, True) := ⟨0, trivial⟩
            have HLM : Hid (Mod (FC t f rv') X7 X8) := hm
            clear he hN8 haw hap hown hm TD
            go_upto_region 17 with fail
            obtain ⟨b21, hb21⟩ : ∃ b21, b21 = X8.heap.size := ⟨_, rfl⟩
            obtain ⟨W9, hW9⟩ : ∃ W9, W9 = X8.alloc (.cells #[.slice (some ⟨ap2, 0, none⟩) m m, .int .i64 0, .int .i64 0] 34) := ⟨_, rfl⟩
            have hB9 : Below X8.heap.size X8 W9 := by rw [hW9]; exact (Below.refl _ _).alloc (Nat.le_refl _) _
            have H21 : Hid (Has W9 b21 #[.slice (some ⟨ap2, 0, none⟩) m m, .int .i64 0, .int .i64 0] 34) := by rw [hb21, hW9]; exact Has.new _ _ _
            have HAW9 := hidden (HAW.out.later hB9)
            have HN9 := hidden (HN8.out.later hB9)
            have HBW9 := hidden (HBW8.out.trans (hB9.mono HBW8.out.size))
            have HM9 : Hid (Mod (FC t f rv') X7 W9) := HLM.out.trans (Mod.of_below (F := fun _ => False) hB9) (fun _ h => h.elim)
            rw [← hW9, ← hb21]
            have r0 := H21.out.cell 0 rfl
            have r1 := H21.out.cell 1 rfl
            have r2 := H21.out.cell 2 rfl
            clear hB9 hW9 hb21 HAW HN8 HBW8 HLM HLS8
            go_wp2_with fail
            go_loopw [23] (fun p X => ∃ j : Nat, p = .int .i64 (j : Int) ∧ j ≤ m ∧ X = W9) (fun p X => m - (intOf p).toNat)
            case atStart => exact ⟨0, rfl, Nat.zero_le _, rfl⟩
            case round =>
              obtain ⟨j, rfl, hjm, rfl⟩ := hrel
              have hwj : IntKind.i64.wrap ((j : Int) + 1) = (j : Int) + 1 := by have := HN.out; rw [IntKind.wrap_i64]; omega
              by_cases hjl : (j : Int) < (m : Int)
              case pos =>
                obtain ⟨e0, e1, e2, e3⟩ := HAW9.out.cells (j := j) (by omega)
                go_wp2
                go_roundw
                case rel => exact ⟨j + 1, by simp, by omega, by trivial⟩
                case measure => simp only [intOf]; omega
              case neg =>
                have AV := hidden (Ob.all HN9.out (by have := HG1.out.len; have := HG1.out.k; omega) (fun x hx => (HG1.out.ch x hx).d1))
                clear r0 r1 r2
                go_wp2_with fail
                refine Calls.mono AV.out ?_
                rintro e X10 ⟨v10, rfl, hT, hB10⟩
                have hls : Ls X10 (.slice va z vc) S1.L := ((told_no HTO.out HN7.out.1 HM9.out).later hB10).ls
                have SM := hidden (Ob.r_all_same hls hT.ls (by have := HG1.out.len; have := HG1.out.k; omega))
                have HB10 := hidden (HBW9.out.trans (hB10.mono HBW9.out.size))
                clear hT hls hB10 AV
                go_wp2_with fail
                refine Calls.mono SM.out ?_
                rintro e X11 ⟨rfl, hB11⟩
                have HB11 := hidden (HB10.out.trans (hB11.mono HB10.out.size))
                have AL := hidden (Ob.alive X11)
                clear hB11 SM
                go_wp2_with fail
                refine Calls.mono AL.out ?_
                rintro e X12 ⟨rfl, hB12⟩
                go_wp2
                go_ret
                exact ⟨rfl, HB11.out.trans (hB12.mono HB11.out.size)⟩

set_option maxRecDepth 100000 in
theorem contract (H : Type) (enc : TypeId × Value → H) (W : World) (base : Nat) (args : Array Value) (ds gs : List (DataW H)) (before : List MemPlace)
    (hval : ∀ (j : Nat) t v, Try.f6.params[j]? = some t → args[j]? = some v → Value.okWide Try.prog W .any base t v)
    (hW : DataW.Whole enc Try.prog Try.f6.params.toList Rows.outboxAgainSpec.vars false W args.toList ds gs before)
    (hsz0 : (DataW.weightsEach Try.prog (Try.f6.params.toList ++ Rows.outboxAgainSpec.plain.varTypes Try.prog) (ds ++ gs)).all (· ≤ reachBytes) = true) :
    Calls Try.prog 6 args W fun e W' => ∃ v, e = .returned v ∧ Rows.outboxAgainSpec.post enc Try.prog Try.f6 false true false false W args v W' := by
  have hW' := hW
  obtain ⟨p, q, hA0, hV, rfl, hfz, hnd⟩ := hW
  have hA : DataW.TrodAll enc Try.prog W 0 (fun _ => true) true Try.f6.params.toList args.toList ds p := hA0
  have hsz := hsz0
  rw [Try.params6] at hA hval hsz
  obtain ⟨v0, vs0, d0, ds0, p0, q0, hargs, rfl, rfl, h0, r0⟩ := trodAll_cons hA
  obtain ⟨v1, vs1, d1, ds1, p1, q1, rfl, rfl, rfl, h1, r1⟩ := trodAll_cons r0
  obtain ⟨v2, vs2, d2, ds2, p2, q2, rfl, rfl, rfl, h2, r2⟩ := trodAll_cons r1
  obtain ⟨v3, vs3, d3, ds3, p3, q3, rfl, rfl, rfl, h3, r3⟩ := trodAll_cons r2
  obtain ⟨v4, vs4, d4, ds4, p4, q4, rfl, rfl, rfl, h4, r4⟩ := trodAll_cons r3
  obtain ⟨v5, vs5, d5, ds5, p5, q5, rfl, rfl, rfl, h5, r5⟩ := trodAll_cons r4
  obtain ⟨rfl, rfl, rfl⟩ := trodAll_nil r5
  obtain rfl : args = #[v0, v1, v2, v3, v4, v5] := by cases args; simp_all
  obtain ⟨rfl, rfl⟩ := trodVars_none hV
  obtain ⟨a0, rfl, rfl, rfl, w0⟩ := open_int Try.underlying22 (hval 0 22 v0 rfl rfl) h0
  obtain ⟨a1, rfl, rfl, rfl, w1⟩ := open_int Try.underlying3 (hval 1 3 v1 rfl rfl) h1
  obtain ⟨a2, len2, cap2, rfl⟩ := okWide_slice Try.underlying23 (hval 2 23 v2 rfl rfl)
  have k2 := h2
  have lt2 : ∀ x ∈ p2, x.block < W.heap.size := by obtain ⟨m, hm⟩ := k2; exact DataW.trod_lt m _ _ _ hm
  have sz2 : (d2.weights Try.prog 23).all (· ≤ reachBytes) = true := List.all_eq_true.2 fun m hm => List.all_eq_true.1 hsz m (DataW.weights_mem_each (j := 2) rfl rfl m hm)
  obtain ⟨z2, w2, s2⟩ : ∃ z2, Ob.Ops W a2 len2 z2 ∧ True := by
    obtain ⟨fuel, hf⟩ := h2
    obtain ⟨vs, h1⟩ := Ob.ops_arg hf sz2
    exact ⟨vs, h1, trivial⟩
  have k3 := h3
  have lt3 : ∀ x ∈ p3, x.block < W.heap.size := by obtain ⟨m, hm⟩ := k3; exact DataW.trod_lt m _ _ _ hm
  have sz3 : (d3.weights Try.prog 48).all (· ≤ reachBytes) = true := List.all_eq_true.2 fun m hm => List.all_eq_true.1 hsz m (DataW.weights_mem_each (j := 3) rfl rfl m hm)
  obtain ⟨q3, rfl, w3, s3⟩ : ∃ q : Ob.QA, v3 = Ob.kv q.c ∧ Ob.OkQ W q ∧ True := by
    obtain ⟨fuel, hf⟩ := h3
    obtain ⟨q, e, k, hb⟩ := Ob.chunk_arg (hval 3 48 v3 rfl rfl) hf sz3
    exact ⟨q, e, k, trivial⟩
  obtain ⟨a4, rfl, rfl, rfl, w4⟩ := open_int Try.underlying22 (hval 4 22 v4 rfl rfl) h4
  obtain ⟨a5, rfl, rfl, rfl, w5⟩ := open_int Try.underlying3 (hval 5 3 v5 rfl rfl) h5
  clear hA0 hsz0 hsz
  refine (walk a0 a1 a2 len2 cap2 z2 q3 a4 a5 W w0 w1 w2 s2 w3 s3 w4 w5).mono fun e W' ⟨he, bel⟩ => ?_
  subst he
  exact ⟨_, rfl, _, _, _, [], _, [], hW', trodAll_mk1 (shut_bool Try.underlying4 _), (trodAll_cons_mk (shut_int Try.underlying22 w0) (trodAll_cons_mk (shut_int Try.underlying3 w1) (trodAll_cons_mk (Below.trod laidOut (by kernel_rfl) (of_decide_eq_true (by kernel_rfl)) k2 bel lt2) (trodAll_cons_mk (Below.trod laidOut (by kernel_rfl) (of_decide_eq_true (by kernel_rfl)) k3 bel lt3) (trodAll_cons_mk (shut_int Try.underlying22 w4) (trodAll_cons_mk (shut_int Try.underlying3 w5) trodAll_mk0)))))), rfl, bel.frame _, fun h => by cases h⟩

noncomputable def laidWorld (os : Os) : World :=
  World.holding Try.prog os ⟨#[], #[], []⟩
set_option maxRecDepth 100000 in
theorem laid_met (os : Os) : laidMet Try.prog Rows.outboxAgainRow.laid ((laidWorld os).forCall (fun _ _ => 0) ⟨#[], #[.int .u32 0, .int .i64 0, .slice none 0 0, .agg #[.int .u8 0, .int .u8 0, .int .u32 0, .int .u16 0, .int .u16 0, .int .u32 0, .int .u32 0, .int .u32 0, .int .u16 0, .int .u16 0, .slice none 0 0, .slice none 0 0, .slice none 0 0, .slice none 0 0, .slice none 0 0], .int .u32 0, .int .i64 0], []⟩).memory :=
  laidMet_of_run' 8 (by kernel_rfl) (by kernel_rfl)
set_option maxRecDepth 100000 in
theorem reads (os : Os) {H : Type} (enc : TypeId × Value → H) : ∃ places, DataW.whole enc Try.prog ((laidWorld os).forCall (fun _ _ => 0) ⟨#[], #[.int .u32 0, .int .i64 0, .slice none 0 0, .agg #[.int .u8 0, .int .u8 0, .int .u32 0, .int .u16 0, .int .u16 0, .int .u32 0, .int .u32 0, .int .u32 0, .int .u16 0, .int .u16 0, .slice none 0 0, .slice none 0 0, .slice none 0 0, .slice none 0 0, .slice none 0 0], .int .u32 0, .int .i64 0], []⟩).memory Try.f6.params.toList Rows.outboxAgainSpec.vars false #[Value.int .u32 0, Value.int .i64 0, Value.slice none 0 0, Value.agg #[.int .u8 0, .int .u8 0, .int .u32 0, .int .u16 0, .int .u16 0, .int .u32 0, .int .u32 0, .int .u32 0, .int .u16 0, .int .u16 0, .slice none 0 0, .slice none 0 0, .slice none 0 0, .slice none 0 0, .slice none 0 0], Value.int .u32 0, Value.int .i64 0].toList 8 = some ([.lit (.int .u32 0), .lit (.int .i64 0), .nil, .agg [.lit (.int .u8 0), .lit (.int .u8 0), .lit (.int .u32 0), .lit (.int .u16 0), .lit (.int .u16 0), .lit (.int .u32 0), .lit (.int .u32 0), .lit (.int .u32 0), .lit (.int .u16 0), .lit (.int .u16 0), .nil, .nil, .nil, .nil, .nil], .lit (.int .u32 0), .lit (.int .i64 0)], [], places) :=
  ⟨[], by kernel_rfl⟩

set_option maxRecDepth 100000 in
theorem lifted (os : Os) (started : os.Started) (H : Type) (enc : TypeId × Value → H) (F : Stop.Interp) :
    ReturnsInHanded {} Try.checked os 6 .any ((OpenSpec.ofChange Rows.outboxAgainSpec).preRow enc Try.prog Try.f6 Rows.outboxAgainRow.domain false Rows.outboxAgainRow.laid) (((OpenSpec.ofChange Rows.outboxAgainSpec).at F).post enc Try.prog Try.f6 false true false false) := by
  obtain ⟨places, hx⟩ := reads os enc
  refine returnsInHanded_of_row (C := Try.checked) (s := OpenSpec.ofChange Rows.outboxAgainSpec) own started (by kernel_rfl) Try.func6
    (witness_row_at (enc := enc) (C := Try.checked) false (laidWorld os) #[.int .u32 0, .int .i64 0, .slice none 0 0, .agg #[.int .u8 0, .int .u8 0, .int .u32 0, .int .u16 0, .int .u16 0, .int .u32 0, .int .u32 0, .int .u32 0, .int .u16 0, .int .u16 0, .slice none 0 0, .slice none 0 0, .slice none 0 0, .slice none 0 0, .slice none 0 0], .int .u32 0, .int .i64 0] rfl (by kernel_rfl) (by kernel_rfl) (by kernel_rfl)
      (OpenSpec.preRow_of_cond 8 hx (by kernel_rfl) (fun k hk => by cases hk) (by kernel_rfl) (laid_met os))) ?_
  intro W base args ds gs before hval hW _ hcond hsz hL _ _
  exact contract H enc W base args ds gs before hval hW hsz

set_option maxRecDepth 100000 in
theorem said : Rows.OutboxAgainSaid :=
  OpenClaim.holds_of_cond 6 Try.f6 rfl rfl rfl rfl rfl rfl rfl ⟨rfl, rfl, rfl, rfl, rfl⟩ rfl rfl rfl rfl rfl (by kernel_rfl) Try.func6 (by kernel_rfl)
    (of_decide_eq_true (by kernel_rfl)) (by unfold Func.isWrapper; first | (rw [if_pos (by decide +kernel)]; kernel_rfl) | (rw [if_neg (by decide +kernel)]; exact ⟨rfl, rfl⟩))
    (fun os started H enc _ F => by rw [OpenClaim.pre_eq_preRow]; exact lifted os started H enc F)

/-- THE STATEMENT -/
theorem proved : Rows.OutboxAgainSaid := said
#print axioms proved
end Go.Proofs.Ytjceeckcfjjkkaa.outboxAgain
