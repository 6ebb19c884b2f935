/-
  The law InboxKept: a number that came and was fixed is among the fixed blocks of every later report, and in the box, till cum has reached it, whatever comes between. Conditions: none but what the card ties.
-/
import Derived.Test.YtdifceikfnnfeaaDoorCards
import Derived.Test.YtdifceikfnnfeaaDoorTie
import Derived.WalkKit
import Derived.ProofKit
import Derived.OpenShut
import Derived.ShutString
import Derived.ChangeOld
import Derived.Below
import Derived.SizedLaws
import Derived.Deep.DeepHandedRow
import Derived.Lib.LaidTab
import Derived.Test.YtdifceikfnnfeaaDoorInT
import Derived.Test.YtdifceikfnnfeaaDoorInArgs
namespace Go.Proofs.YtdifceikfnnfeaaDoor.inboxKept
open Go.ChangeShapes Go.WideShapes Go.ChangeAt Go.RowKit
set_option linter.unusedVariables false

theorem own : ownKnob Tryd.prog.godebug = none := by kernel_rfl
theorem laidOut : laidOutB Tryd.prog = true := by kernel_rfl
theorem gTab : Tryd.prog.globalNamed "math/bits.deBruijn64tab" = some 0 := by kernel_rfl
theorem gTabType : (Tryd.prog.globals[0]?).map (·.type) = some 120 := by kernel_rfl
theorem table {W : World} (h : laidMetH Tryd.prog Rows.inboxKeptRow.laid W) : Sp.Tab W := fun i hi =>
  (show Lib.TabIs Tryd.prog W "math/bits.deBruijn64tab" .u8 Sp.tab64 from
    Lib.tabIs_of_head (rest := []) gTab gTabType Tryd.underlying120 Tryd.underlying5 (by kernel_rfl) (by kernel_rfl) h).cell gTab i hi

open Ba (hidden Has cell_lt heap_lt)

set_option maxRecDepth 20000 in
set_option maxHeartbeats 1000000 in
theorem walk (a0 : Int) (a1 : Option Addr) (len1 cap1 : Nat) (z1 : List Sp.Inb.OA) (a2 : Int) (a3 : Option Addr) (len3 cap3 : Nat) (z3 : List Sp.Inb.OA) (w : World) (w0 : (Lit.int .u32 a0).wf = true) (w1 : Sp.Inb.Ops w a1 len1 z1) (w2 : (Lit.int .u16 a2).wf = true) (w3 : Sp.Inb.Ops w a3 len3 z3) (ht : Sp.Tab w) :
    Calls Tryd.prog 6 #[.int .u32 a0, .slice a1 len1 cap1, .int .u16 a2, .slice a3 len3 cap3] w fun e w' => e = .returned (.bool true) ∧ Below w.heap.size w w' := by
  have AL := hidden (fun (X : World) (hX : Below w.heap.size w X) => Sp.Inb.alive X (ht.below hX (by have := cell_lt (ht 0 (by decide)); exact this)))
  have hb0 := Ser.b32 w0
  obtain ⟨f0, rfl⟩ := Int.eq_ofNat_of_zero_le hb0.1
  have hf0 : f0 < 4294967296 := by omega
  have hb2 := Ser.b16 w2
  obtain ⟨a2, rfl⟩ := Int.eq_ofNat_of_zero_le hb2.1
  have ha2 : a2 ≤ 65535 := by omega
  have MD := hidden (Sp.Inb.made_on (first := f0) hf0 0 true (by decide) w ht cap1 w1)
  have HZ := hidden w3
  have hnb := w3.2.2.1
  clear ht hb0 hb2 w3
  generalize hfI : ((f0 : Nat) : Int) = fI at *
  go_enter Tryd.func6, Tryd.ntmps6
  go_wp2_with fail
  refine Calls.mono MD.out ?_
  rintro e y0 ⟨b, bc, bf, r, bs, rfl, v, fx, dp, P, hX, hB⟩
  have hnr : (Sp.Inb.runS (z1.take (min len1 200)) (Sp.Inb.newS fI 0 true)).nr = true := (Sp.Inb.runS_nr _ _).trans rfl
  have hK1 : min len1 200 ≤ 200 := Nat.min_le_right _ _
  generalize Sp.Inb.runS (z1.take (min len1 200)) (Sp.Inb.newS fI 0 true) = s at *
  generalize min len1 200 = K1 at *
  obtain ⟨ra, rcap, c0, c1, c2, c3, c4, c5, c6, c7, c8, cf, d0, d1⟩ := hX.rf.cells
  clear c1 c2 c3 c4 c5 c6 c7 c8 cf d1
  have hok := hX.ok
  have hc := hok.c
  obtain ⟨t, ht⟩ : ∃ t, Sp.Inb.ts s.c a2 = t := ⟨_, rfl⟩
  have ht3 : t < 4294967296 := by rw [← ht]; exact Sp.Inb.ts_lt _ _
  have RA := hidden (Sp.Inb.radd_ s.c a2 hc (by omega))
  rw [ht] at RA
  have CB := hidden (Sp.Inb.come_both hX t ht3)
  have KS := Sp.Inb.Kp.start hok ha2
  rw [ht] at KS
  have KS := hidden KS
  have HB := hidden hB
  have HNR := hidden hnr
  have ha2i : (a2 : Int) < 65536 := by omega
  have ha20 : 0 ≤ (a2 : Int) := by omega
  clear hX hB hok hnr MD ht ha2
  generalize (s.c : Int) = cI at *
  generalize (a2 : Int) = aI at *
  go_wp2_with fail
  refine Calls.mono (RA.out _) ?_
  rintro e y' ⟨rfl, rfl⟩
  generalize htI : ((t : Nat) : Int) = tI at *
  go_wp2_with fail
  refine Calls.mono CB.out ?_
  rintro e x1 ⟨rfl, CR⟩
  have CR := hidden CR
  clear c0 d0 CB
  generalize Sp.Inb.comeB t s = B at *
  generalize Sp.Inb.comeE t s = E at *
  go_wp2_with fail
  refine Calls.mono CR.out ?_
  rintro e x2 ⟨rfl, v2, fx2, dp2, P2, hX2, hB2⟩
  have FB := Sp.Inb.fix_both hX2 t ht3
  rw [htI] at FB
  have FB := hidden FB
  have HB2 := hidden (HB.out.trans hB2)
  clear hX2 hB2 CR
  generalize Sp.Inb.fixN [t] (Sp.Inb.comeS t s) = M at *
  go_wp2_with fail
  refine Calls.mono FB.out ?_
  rintro e x3 ⟨rfl, HR⟩
  have HR := hidden HR
  clear FB
  go_wp2_with fail
  refine Calls.mono HR.out ?_
  rintro e x4 ⟨rfl, v4, fx4, dp4, P4, hX4, hB4⟩
  have FD := hidden (Sp.Inb.r_Fixed hX4.rf hX4.ok)
  have HB4 := hidden (HB2.out.trans hB4)
  have hn4 := hX4.cd.hn
  have HN4 := hidden ((Sp.Inb.fixAll_F [t] (Sp.Inb.comeS t s)).2.2.trans ((Sp.Inb.comeS_nr t s).trans HNR.out))
  have HX4 := hidden (fun (X : World) (hX : Below x4.heap.size x4 X) => hX4.later hX)
  clear hX4 hB4 HR HNR HB2 HB
  generalize Sp.Inb.fixAll [t] (Sp.Inb.comeS t s) = s4 at *
  go_wp2_with fail
  refine Calls.mono FD.out ?_
  rintro e x5 ⟨u, rfl, hu, hB5⟩
  obtain ⟨ua, ucap, rfl⟩ := Ba.own_len hu
  have HX5 := HX4.out _ hB5
  obtain ⟨ra2, rcap2, c0, c1, c2, c3, c4, c5, c6, c7, c8, cf, d0, d1⟩ := HX5.rf.cells
  clear c1 c2 c3 c4 c5 c6 c7 c8 cf d1
  have hc4 := HX5.ok.c
  have LS := hidden (Sp.Inb.rless_ s4.c t hc4 ht3 x5)
  rw [htI] at LS
  have AF := hidden (⟨v4, fx4, dp4, P4, HX5, HB4.out.trans (hB5.mono hn4)⟩ : Sp.Inb.After w.heap.size w x5 b bc bf r bs (K1 + 1) s4)
  clear HX5 hB5 hu FD hc HX4 HB4
  generalize (s4.F.map (Sp.Inb.ts s4.c)).length = N at *
  generalize hcI4 : ((s4.c : Nat) : Int) = cI4 at *
  rcases Nat.eq_zero_or_pos N with hN | hN
  · have hN' : ¬ (0 : Int) < (N : Int) := by omega
    go_wp2_with fail
    have AF := hidden (⟨s4, AF.out, KS.out, HN4.out⟩ : ∃ s5, Sp.Inb.After w.heap.size w x5 b bc bf r bs (K1 + 1 + 0) s5 ∧ Sp.Inb.Kp t (1 + (0 : Nat)) s5 ∧ s5.nr = true)
    clear KS HN4 hn4 hc4 hcI4 LS
    go_loopw [18] (fun i wr => ∃ k : Nat, k ≤ min len3 200 ∧ i = .int .i64 (k : Int) ∧ Hid (∃ s5, Sp.Inb.After w.heap.size w wr b bc bf r bs (K1 + 1 + k) s5 ∧ Sp.Inb.Kp t (1 + (k : Nat)) s5 ∧ s5.nr = true)) (fun i wr => 200 - (intOf i).toNat)
    case atStart => exact ⟨0, by omega, rfl, AF⟩
    case round =>
      obtain ⟨k, hk, rfl, hA⟩ := hrel
      by_cases hlt : k < min len3 200
      · have h1 : (k : Int) < (len3 : Int) := by omega
        have h2 : (k : Int) < 200 := by omega
        have hA0 := hA.out
        obtain ⟨s5, ⟨v, fx, dp, P, hX, hB⟩, hKp, hN5⟩ := hA0
        obtain ⟨bb, off, z, rfl, hzk, c0, c1, c2, hrow⟩ := HZ.out.at hB (j := k) (by omega)
        have AC := hidden (Sp.Inb.act hX (by omega) z hrow)
        have LD := hidden (Sp.Inb.ld_op z.a z.m z.cap c0 c1 c2)
        have ST := hidden (fun (x : World) (h : Sp.Inb.After w.heap.size wr x b bc bf r bs (K1 + 1 + k + 1) (Sp.Inb.actS z s5)) => (by
          obtain ⟨v, fx, dp, P, hX2, hB2⟩ := h
          refine ⟨_, ⟨v, fx, dp, P, hX2, hB.trans hB2⟩, ?_, (Sp.Inb.actS_nr z s5).trans hN5⟩
          have := hKp.act hX.ok ht3 (by omega) z
          rwa [show (1 : Int) + (k : Nat) + 1 = 1 + ((k + 1 : Nat) : Int) by omega] at this : ∃ s6, Sp.Inb.After w.heap.size w x b bc bf r bs (K1 + 1 + (k + 1)) s6 ∧ Sp.Inb.Kp t (1 + ((k + 1 : Nat) : Int)) s6 ∧ s6.nr = true))
        clear hX hB c0 c1 c2 hrow hA hKp hN5
        have hlk : k < len3 := by omega
        go_wp2_with (first | (refine Sp.Inb.wpList_ldA rfl 35 _ rfl rfl LD.out ?_) | fail)
        refine Calls.mono AC.out ?_
        rintro e x ⟨rfl, hx⟩
        have FN := hidden (ST.out x hx)
        clear hx
        go_wp2
        go_roundw
        case rel => exact ⟨k + 1, by omega, rfl, FN⟩
        case measure => simp only [intOf]; omega
      · have hA0 := hA.out
        obtain ⟨s5, ⟨v, fx, dp, P, hX, hB⟩, hKp, hN5⟩ := hA0
        have hlen5 : s5.F.length ≤ 402 := by
          have h1 := Sp.Inb.sub_len hX.ok.L.1 hX.ok.F.1 hX.ok.sub
          have h2 := hX.ok.lk
          omega
        have hNR : Sp.Inb.nrR s5 4096 = Sp.blk s5.F := by
          unfold Sp.Inb.nrR
          rw [if_pos hN5]
          exact List.take_of_length_le (by have := Sp.blk_len s5.F; show _ ≤ 4096; omega)
        have RP := hidden (Sp.Inb.Report_ok hX.cd hX.ok 1 4096 (by decide))
        have BL := hidden (fun (x : World) (h : Sp.Inb.Mod (Sp.Inb.FC b bc bf v) wr x) => (hB.trans (h.below hX.cd.hn hX.cd.fc_ge) : Below w.heap.size w x))
        have hc5 := hX.ok.c
        have DF := hidden (fun (X : World) => (Ser.rdiff (s5.c : Int) (t : Int) (by omega) (by omega) X))
        rw [htI] at DF
        have hin5 : Hid (∀ d : Int, Ser.dist 4294967296 (s5.c : Int) tI = d → 0 < d → d.toNat ∈ s5.F ∧ d.toNat ∈ s5.L) := fun d e hd => by
          have e2 : Sp.Inb.ds s5.c t = d := by rw [← e, ← htI]; rfl
          have := hKp.2.2 (by omega)
          rw [e2] at this
          exact ⟨this, hX.ok.sub _ this⟩
        have HX := hidden hX
        clear hX hB hA hKp hN5 hlen5 AF
        have HNR := hidden hNR
        clear hNR
        by_cases hn2 : k < len3
        · have h1 : (k : Int) < (len3 : Int) := by omega
          have h2 : ¬ (k : Int) < 200 := by omega
          go_wp2_with fail
          refine Calls.mono RP.out ?_
          rintro e x6 ⟨V, rfl, hV, hC6, hM6⟩
          have hV : Sp.Inb.Rg_ wr.heap.size x6 _ _ _ _ _ _ V := hV
          rw [HNR.out] at hV
          obtain ⟨Y, cs, rfl, st, hBY, hlY, k2, na, nk, k11, hnl, hor⟩ := hV.read
          have STO := hidden st
          have HBY := hidden ((BL.out _ hM6).trans (hBY.mono (BL.out _ hM6).size))
          have HCY := hidden (hC6.later hBY)
          have HA := hidden (AL.out Y HBY.out)
          clear hV hC6 hM6 st hBY RP BL
          go_wp2_with (first | (refine Sp.Inb.wpList_alA rfl 46 rfl (Sp.Inb.alloc_ch _) ?_) | (refine Sp.Inb.wpList_stA rfl 46 _ _ rfl rfl rfl rfl STO.out ?_) | fail)
          refine Calls.mono (DF.out _) ?_
          rintro e y' ⟨rfl, rfl⟩
          obtain ⟨d, hd⟩ : ∃ d, Ser.dist 4294967296 (s5.c : Int) tI = d := ⟨_, rfl⟩
          rw [hd]
          clear DF HX hin5 hd
          go_wp2_with fail
          refine Calls.mono HA.out ?_
          rintro e z ⟨rfl, hz⟩
          have FN := hidden (HBY.out.trans (hz.mono HBY.out.size))
          clear hz
          go_wp2
          go_ret
          exact ⟨rfl, FN.out⟩
        · have h1 : ¬ (k : Int) < (len3 : Int) := by omega
          go_wp2_with fail
          refine Calls.mono RP.out ?_
          rintro e x6 ⟨V, rfl, hV, hC6, hM6⟩
          have hV : Sp.Inb.Rg_ wr.heap.size x6 _ _ _ _ _ _ V := hV
          rw [HNR.out] at hV
          obtain ⟨Y, cs, rfl, st, hBY, hlY, k2, na, nk, k11, hnl, hor⟩ := hV.read
          have STO := hidden st
          have HBY := hidden ((BL.out _ hM6).trans (hBY.mono (BL.out _ hM6).size))
          have HCY := hidden (hC6.later hBY)
          have HA := hidden (AL.out Y HBY.out)
          clear hV hC6 hM6 st hBY RP BL
          go_wp2_with (first | (refine Sp.Inb.wpList_alA rfl 46 rfl (Sp.Inb.alloc_ch _) ?_) | (refine Sp.Inb.wpList_stA rfl 46 _ _ rfl rfl rfl rfl STO.out ?_) | fail)
          refine Calls.mono (DF.out _) ?_
          rintro e y' ⟨rfl, rfl⟩
          obtain ⟨d, hd⟩ : ∃ d, Ser.dist 4294967296 (s5.c : Int) tI = d := ⟨_, rfl⟩
          rw [hd]
          clear DF HX hin5 hd
          go_wp2_with fail
          refine Calls.mono HA.out ?_
          rintro e z ⟨rfl, hz⟩
          have FN := hidden (HBY.out.trans (hz.mono HBY.out.size))
          clear hz
          go_wp2
          go_ret
          exact ⟨rfl, FN.out⟩
  · have hN' : (0 : Int) < (N : Int) := by omega
    go_wp2_with fail
    refine Calls.mono LS.out ?_
    rintro e y' ⟨rfl, rfl⟩
    generalize decide (0 < Sp.Inb.ds s4.c t) = held at *
    go_wp2_with fail
    have AF := hidden (⟨s4, AF.out, KS.out, HN4.out⟩ : ∃ s5, Sp.Inb.After w.heap.size w x5 b bc bf r bs (K1 + 1 + 0) s5 ∧ Sp.Inb.Kp t (1 + (0 : Nat)) s5 ∧ s5.nr = true)
    clear KS HN4 hn4 hc4 hcI4 LS
    go_loopw [18] (fun i wr => ∃ k : Nat, k ≤ min len3 200 ∧ i = .int .i64 (k : Int) ∧ Hid (∃ s5, Sp.Inb.After w.heap.size w wr b bc bf r bs (K1 + 1 + k) s5 ∧ Sp.Inb.Kp t (1 + (k : Nat)) s5 ∧ s5.nr = true)) (fun i wr => 200 - (intOf i).toNat)
    case atStart => exact ⟨0, by omega, rfl, AF⟩
    case round =>
      obtain ⟨k, hk, rfl, hA⟩ := hrel
      by_cases hlt : k < min len3 200
      · have h1 : (k : Int) < (len3 : Int) := by omega
        have h2 : (k : Int) < 200 := by omega
        have hA0 := hA.out
        obtain ⟨s5, ⟨v, fx, dp, P, hX, hB⟩, hKp, hN5⟩ := hA0
        obtain ⟨bb, off, z, rfl, hzk, c0, c1, c2, hrow⟩ := HZ.out.at hB (j := k) (by omega)
        have AC := hidden (Sp.Inb.act hX (by omega) z hrow)
        have LD := hidden (Sp.Inb.ld_op z.a z.m z.cap c0 c1 c2)
        have ST := hidden (fun (x : World) (h : Sp.Inb.After w.heap.size wr x b bc bf r bs (K1 + 1 + k + 1) (Sp.Inb.actS z s5)) => (by
          obtain ⟨v, fx, dp, P, hX2, hB2⟩ := h
          refine ⟨_, ⟨v, fx, dp, P, hX2, hB.trans hB2⟩, ?_, (Sp.Inb.actS_nr z s5).trans hN5⟩
          have := hKp.act hX.ok ht3 (by omega) z
          rwa [show (1 : Int) + (k : Nat) + 1 = 1 + ((k + 1 : Nat) : Int) by omega] at this : ∃ s6, Sp.Inb.After w.heap.size w x b bc bf r bs (K1 + 1 + (k + 1)) s6 ∧ Sp.Inb.Kp t (1 + ((k + 1 : Nat) : Int)) s6 ∧ s6.nr = true))
        clear hX hB c0 c1 c2 hrow hA hKp hN5
        have hlk : k < len3 := by omega
        go_wp2_with (first | (refine Sp.Inb.wpList_ldA rfl 35 _ rfl rfl LD.out ?_) | fail)
        refine Calls.mono AC.out ?_
        rintro e x ⟨rfl, hx⟩
        have FN := hidden (ST.out x hx)
        clear hx
        go_wp2
        go_roundw
        case rel => exact ⟨k + 1, by omega, rfl, FN⟩
        case measure => simp only [intOf]; omega
      · have hA0 := hA.out
        obtain ⟨s5, ⟨v, fx, dp, P, hX, hB⟩, hKp, hN5⟩ := hA0
        have hlen5 : s5.F.length ≤ 402 := by
          have h1 := Sp.Inb.sub_len hX.ok.L.1 hX.ok.F.1 hX.ok.sub
          have h2 := hX.ok.lk
          omega
        have hNR : Sp.Inb.nrR s5 4096 = Sp.blk s5.F := by
          unfold Sp.Inb.nrR
          rw [if_pos hN5]
          exact List.take_of_length_le (by have := Sp.blk_len s5.F; show _ ≤ 4096; omega)
        have RP := hidden (Sp.Inb.Report_ok hX.cd hX.ok 1 4096 (by decide))
        have BL := hidden (fun (x : World) (h : Sp.Inb.Mod (Sp.Inb.FC b bc bf v) wr x) => (hB.trans (h.below hX.cd.hn hX.cd.fc_ge) : Below w.heap.size w x))
        have hc5 := hX.ok.c
        have DF := hidden (fun (X : World) => (Ser.rdiff (s5.c : Int) (t : Int) (by omega) (by omega) X))
        rw [htI] at DF
        have hin5 : Hid (∀ d : Int, Ser.dist 4294967296 (s5.c : Int) tI = d → 0 < d → d.toNat ∈ s5.F ∧ d.toNat ∈ s5.L) := fun d e hd => by
          have e2 : Sp.Inb.ds s5.c t = d := by rw [← e, ← htI]; rfl
          have := hKp.2.2 (by omega)
          rw [e2] at this
          exact ⟨this, hX.ok.sub _ this⟩
        have HX := hidden hX
        clear hX hB hA hKp hN5 hlen5 AF
        have HNR := hidden hNR
        clear hNR
        by_cases hn2 : k < len3
        · have h1 : (k : Int) < (len3 : Int) := by omega
          have h2 : ¬ (k : Int) < 200 := by omega
          go_wp2_with fail
          refine Calls.mono RP.out ?_
          rintro e x6 ⟨V, rfl, hV, hC6, hM6⟩
          have hV : Sp.Inb.Rg_ wr.heap.size x6 _ _ _ _ _ _ V := hV
          rw [HNR.out] at hV
          obtain ⟨Y, cs, rfl, st, hBY, hlY, k2, na, nk, k11, hnl, hor⟩ := hV.read
          have STO := hidden st
          have HBY := hidden ((BL.out _ hM6).trans (hBY.mono (BL.out _ hM6).size))
          have HCY := hidden (hC6.later hBY)
          have HA := hidden (AL.out Y HBY.out)
          clear hV hC6 hM6 st hBY RP BL
          go_wp2_with (first | (refine Sp.Inb.wpList_alA rfl 46 rfl (Sp.Inb.alloc_ch _) ?_) | (refine Sp.Inb.wpList_stA rfl 46 _ _ rfl rfl rfl rfl STO.out ?_) | fail)
          refine Calls.mono (DF.out _) ?_
          rintro e y' ⟨rfl, rfl⟩
          obtain ⟨d, hd⟩ : ∃ d, Ser.dist 4294967296 (s5.c : Int) tI = d := ⟨_, rfl⟩
          rw [hd]
          have LA := hidden (fun (hz : Below w.heap.size w Y) => HA.out)
          rcases held with _ | _
          · clear DF HX hin5 hd
            go_wp2_with fail
            refine Calls.mono HA.out ?_
            rintro e z ⟨rfl, hz⟩
            have FN := hidden (HBY.out.trans (hz.mono HBY.out.size))
            clear hz
            go_wp2
            go_ret
            exact ⟨rfl, FN.out⟩
          · by_cases hd0 : d ≤ 0
            · clear DF HX hin5 hd
              go_wp2_with fail
              refine Calls.mono HA.out ?_
              rintro e z ⟨rfl, hz⟩
              have FN := hidden (HBY.out.trans (hz.mono HBY.out.size))
              clear hz
              go_wp2
              go_ret
              exact ⟨rfl, FN.out⟩
            · obtain ⟨hdF, hdL⟩ := hin5.out d hd (by omega)
              obtain ⟨g, hg, hg1, hg2⟩ := (Sp.Inb.mem_blk d.toNat s5.F).1 hdF
              obtain ⟨j0, hj0, hjg⟩ := List.mem_iff_getElem.1 hg
              have HS := hidden (by
                have := Sp.Inb.Has_ HCY.out t ht3
                rw [show Sp.isIn (Sp.Inb.repS s5).c (Sp.Inb.repS s5).L t = true by
                  unfold Sp.isIn
                  rw [Bool.or_eq_true, decide_eq_true_eq, decide_eq_true_eq, htI]
                  show Ser.dist 4294967296 (s5.c : Int) tI ≤ 0 ∨ (Ser.dist 4294967296 (s5.c : Int) tI).toNat ∈ s5.L
                  rw [hd]
                  exact .inr hdL, htI] at this
                exact this : Calls Tryd.prog 30 #[.pointer (some ⟨b, 0, none⟩), .int .u32 tI] Y fun e w' => e = .returned (.bool true) ∧ Y = w')
              obtain ⟨gb, rfl, hcells⟩ := hor.resolve_left (by omega)
              have HC := hidden hcells
              have HG0 : Hid ((Sp.blk s5.F).getD j0 (0, 0) = g) := by
                unfold Hid
                rw [List.getD_eq_getElem?_getD, List.getElem?_eq_getElem hj0, ← hjg]; rfl
              have HGD : Hid (∀ q ∈ Sp.blk s5.F, q.1 ≤ q.2 ∧ q.2 ≤ 65535) := fun q hq => (Sp.blk_good s5.F 2 HX.out.ok.F q hq).2
              clear hor hcells hdF hdL hg hjg hin5 DF HX HCY k2 hd LA
              generalize Sp.blk s5.F = X at *
              have hd1 : ¬ d ≤ 0 := hd0
              go_wp2_with fail
              go_loopw [22] (fun i wr => ∃ k : Nat, k ≤ j0 ∧ i = .int .i64 (k : Int) ∧ Y = wr) (fun i wr => X.length - (intOf i).toNat)
              case atStart => exact ⟨0, by omega, rfl, rfl⟩
              case round =>
                obtain ⟨k, hk, rfl, rfl⟩ := hrel
                have hkX : k < X.length := by omega
                have hkX' : (k : Int) < (X.length : Int) := by omega
                obtain ⟨q0, q1⟩ := HC.out k hkX
                have hb6 := HGD.out (X.getD k (0, 0)) (by rw [List.getD_eq_getElem?_getD, List.getElem?_eq_getElem hkX]; exact List.getElem_mem _)
                have HJ : Hid (k = j0 → X.getD k (0, 0) = g) := fun e => by rw [e]; exact HG0.out
                generalize X.getD k (0, 0) = p at *
                obtain ⟨x, y⟩ := p
                simp only at q0 q1 hb6
                have hx6 : (x : Int) < 65536 := by omega
                have hy6 : (y : Int) < 65536 := by omega
                clear hb6
                by_cases hxy : (x : Int) ≤ d ∧ d ≤ (y : Int)
                · obtain ⟨hx, hy⟩ := hxy
                  go_wp2_with fail
                  refine Calls.mono HS.out ?_
                  rintro e y' ⟨rfl, rfl⟩
                  go_wp2_with fail
                  refine Calls.mono HA.out ?_
                  rintro e z ⟨rfl, hz⟩
                  have FN := hidden (HBY.out.trans (hz.mono HBY.out.size))
                  clear hz
                  go_wp2
                  go_ret
                  exact ⟨rfl, FN.out⟩
                · have hne : k ≠ j0 := fun e => by
                    have := HJ.out e
                    rw [← this] at hg1 hg2
                    simp only at hg1 hg2
                    exact hxy (by omega)
                  rcases (show ¬ (x : Int) ≤ d ∨ ((x : Int) ≤ d ∧ ¬ d ≤ (y : Int)) by omega) with hx | ⟨hx, hy⟩
                  all_goals
                    go_wp2
                    go_roundw
                    case rel => exact ⟨k + 1, by omega, rfl, trivial⟩
                    case measure => simp only [intOf]; omega
        · have h1 : ¬ (k : Int) < (len3 : Int) := by omega
          go_wp2_with fail
          refine Calls.mono RP.out ?_
          rintro e x6 ⟨V, rfl, hV, hC6, hM6⟩
          have hV : Sp.Inb.Rg_ wr.heap.size x6 _ _ _ _ _ _ V := hV
          rw [HNR.out] at hV
          obtain ⟨Y, cs, rfl, st, hBY, hlY, k2, na, nk, k11, hnl, hor⟩ := hV.read
          have STO := hidden st
          have HBY := hidden ((BL.out _ hM6).trans (hBY.mono (BL.out _ hM6).size))
          have HCY := hidden (hC6.later hBY)
          have HA := hidden (AL.out Y HBY.out)
          clear hV hC6 hM6 st hBY RP BL
          go_wp2_with (first | (refine Sp.Inb.wpList_alA rfl 46 rfl (Sp.Inb.alloc_ch _) ?_) | (refine Sp.Inb.wpList_stA rfl 46 _ _ rfl rfl rfl rfl STO.out ?_) | fail)
          refine Calls.mono (DF.out _) ?_
          rintro e y' ⟨rfl, rfl⟩
          obtain ⟨d, hd⟩ : ∃ d, Ser.dist 4294967296 (s5.c : Int) tI = d := ⟨_, rfl⟩
          rw [hd]
          have LA := hidden (fun (hz : Below w.heap.size w Y) => HA.out)
          rcases held with _ | _
          · clear DF HX hin5 hd
            go_wp2_with fail
            refine Calls.mono HA.out ?_
            rintro e z ⟨rfl, hz⟩
            have FN := hidden (HBY.out.trans (hz.mono HBY.out.size))
            clear hz
            go_wp2
            go_ret
            exact ⟨rfl, FN.out⟩
          · by_cases hd0 : d ≤ 0
            · clear DF HX hin5 hd
              go_wp2_with fail
              refine Calls.mono HA.out ?_
              rintro e z ⟨rfl, hz⟩
              have FN := hidden (HBY.out.trans (hz.mono HBY.out.size))
              clear hz
              go_wp2
              go_ret
              exact ⟨rfl, FN.out⟩
            · obtain ⟨hdF, hdL⟩ := hin5.out d hd (by omega)
              obtain ⟨g, hg, hg1, hg2⟩ := (Sp.Inb.mem_blk d.toNat s5.F).1 hdF
              obtain ⟨j0, hj0, hjg⟩ := List.mem_iff_getElem.1 hg
              have HS := hidden (by
                have := Sp.Inb.Has_ HCY.out t ht3
                rw [show Sp.isIn (Sp.Inb.repS s5).c (Sp.Inb.repS s5).L t = true by
                  unfold Sp.isIn
                  rw [Bool.or_eq_true, decide_eq_true_eq, decide_eq_true_eq, htI]
                  show Ser.dist 4294967296 (s5.c : Int) tI ≤ 0 ∨ (Ser.dist 4294967296 (s5.c : Int) tI).toNat ∈ s5.L
                  rw [hd]
                  exact .inr hdL, htI] at this
                exact this : Calls Tryd.prog 30 #[.pointer (some ⟨b, 0, none⟩), .int .u32 tI] Y fun e w' => e = .returned (.bool true) ∧ Y = w')
              obtain ⟨gb, rfl, hcells⟩ := hor.resolve_left (by omega)
              have HC := hidden hcells
              have HG0 : Hid ((Sp.blk s5.F).getD j0 (0, 0) = g) := by
                unfold Hid
                rw [List.getD_eq_getElem?_getD, List.getElem?_eq_getElem hj0, ← hjg]; rfl
              have HGD : Hid (∀ q ∈ Sp.blk s5.F, q.1 ≤ q.2 ∧ q.2 ≤ 65535) := fun q hq => (Sp.blk_good s5.F 2 HX.out.ok.F q hq).2
              clear hor hcells hdF hdL hg hjg hin5 DF HX HCY k2 hd LA
              generalize Sp.blk s5.F = X at *
              have hd1 : ¬ d ≤ 0 := hd0
              go_wp2_with fail
              go_loopw [22] (fun i wr => ∃ k : Nat, k ≤ j0 ∧ i = .int .i64 (k : Int) ∧ Y = wr) (fun i wr => X.length - (intOf i).toNat)
              case atStart => exact ⟨0, by omega, rfl, rfl⟩
              case round =>
                obtain ⟨k, hk, rfl, rfl⟩ := hrel
                have hkX : k < X.length := by omega
                have hkX' : (k : Int) < (X.length : Int) := by omega
                obtain ⟨q0, q1⟩ := HC.out k hkX
                have hb6 := HGD.out (X.getD k (0, 0)) (by rw [List.getD_eq_getElem?_getD, List.getElem?_eq_getElem hkX]; exact List.getElem_mem _)
                have HJ : Hid (k = j0 → X.getD k (0, 0) = g) := fun e => by rw [e]; exact HG0.out
                generalize X.getD k (0, 0) = p at *
                obtain ⟨x, y⟩ := p
                simp only at q0 q1 hb6
                have hx6 : (x : Int) < 65536 := by omega
                have hy6 : (y : Int) < 65536 := by omega
                clear hb6
                by_cases hxy : (x : Int) ≤ d ∧ d ≤ (y : Int)
                · obtain ⟨hx, hy⟩ := hxy
                  go_wp2_with fail
                  refine Calls.mono HS.out ?_
                  rintro e y' ⟨rfl, rfl⟩
                  go_wp2_with fail
                  refine Calls.mono HA.out ?_
                  rintro e z ⟨rfl, hz⟩
                  have FN := hidden (HBY.out.trans (hz.mono HBY.out.size))
                  clear hz
                  go_wp2
                  go_ret
                  exact ⟨rfl, FN.out⟩
                · have hne : k ≠ j0 := fun e => by
                    have := HJ.out e
                    rw [← this] at hg1 hg2
                    simp only at hg1 hg2
                    exact hxy (by omega)
                  rcases (show ¬ (x : Int) ≤ d ∨ ((x : Int) ≤ d ∧ ¬ d ≤ (y : Int)) by omega) with hx | ⟨hx, hy⟩
                  all_goals
                    go_wp2
                    go_roundw
                    case rel => exact ⟨k + 1, by omega, rfl, trivial⟩
                    case measure => simp only [intOf]; omega

set_option maxRecDepth 100000 in
theorem contract (H : Type) (enc : TypeId × Value → H) (W : World) (base : Nat) (args : Array Value) (ds gs : List (DataW H)) (before : List MemPlace)
    (hval : ∀ (j : Nat) t v, Tryd.f6.params[j]? = some t → args[j]? = some v → Value.okWide Tryd.prog W .any base t v)
    (hW : DataW.Whole enc Tryd.prog Tryd.f6.params.toList Rows.inboxKeptSpec.vars false W args.toList ds gs before)
    (hsz0 : (DataW.weightsEach Tryd.prog (Tryd.f6.params.toList ++ Rows.inboxKeptSpec.plain.varTypes Tryd.prog) (ds ++ gs)).all (· ≤ reachBytes) = true)
    (hL : laidMetH Tryd.prog Rows.inboxKeptRow.laid W) :
    Calls Tryd.prog 6 args W fun e W' => ∃ v, e = .returned v ∧ Rows.inboxKeptSpec.post enc Tryd.prog Tryd.f6 false true false false W args v W' := by
  have hW' := hW
  obtain ⟨p, q, hA0, hV, rfl, hfz, hnd⟩ := hW
  have hA : DataW.TrodAll enc Tryd.prog W 0 (fun _ => true) true Tryd.f6.params.toList args.toList ds p := hA0
  have hsz := hsz0
  rw [Tryd.params6] at hA hval hsz
  obtain ⟨v0, vs0, d0, ds0, p0, q0, hargs, rfl, rfl, h0, r0⟩ := trodAll_cons hA
  obtain ⟨v1, vs1, d1, ds1, p1, q1, rfl, rfl, rfl, h1, r1⟩ := trodAll_cons r0
  obtain ⟨v2, vs2, d2, ds2, p2, q2, rfl, rfl, rfl, h2, r2⟩ := trodAll_cons r1
  obtain ⟨v3, vs3, d3, ds3, p3, q3, rfl, rfl, rfl, h3, r3⟩ := trodAll_cons r2
  obtain ⟨rfl, rfl, rfl⟩ := trodAll_nil r3
  obtain rfl : args = #[v0, v1, v2, v3] := by cases args; simp_all
  obtain ⟨rfl, rfl⟩ := trodVars_none hV
  obtain ⟨a0, rfl, rfl, rfl, w0⟩ := open_int Tryd.underlying22 (hval 0 22 v0 rfl rfl) h0
  obtain ⟨a1, len1, cap1, rfl⟩ := okWide_slice Tryd.underlying23 (hval 1 23 v1 rfl rfl)
  have k1 := h1
  have lt1 : ∀ x ∈ p1, x.block < W.heap.size := by obtain ⟨m, hm⟩ := k1; exact DataW.trod_lt m _ _ _ hm
  have sz1 : (d1.weights Tryd.prog 23).all (· ≤ reachBytes) = true := List.all_eq_true.2 fun m hm => List.all_eq_true.1 hsz m (DataW.weights_mem_each (j := 1) rfl rfl m hm)
  obtain ⟨z1, w1⟩ : ∃ z1, Sp.Inb.Ops W a1 len1 z1 := by
    obtain ⟨fuel, hf⟩ := h1
    exact Sp.Inb.ops_arg hf sz1
  obtain ⟨a2, rfl, rfl, rfl, w2⟩ := open_int Tryd.underlying41 (hval 2 41 v2 rfl rfl) h2
  obtain ⟨a3, len3, cap3, rfl⟩ := okWide_slice Tryd.underlying23 (hval 3 23 v3 rfl rfl)
  have k3 := h3
  have lt3 : ∀ x ∈ p3, x.block < W.heap.size := by obtain ⟨m, hm⟩ := k3; exact DataW.trod_lt m _ _ _ hm
  have sz3 : (d3.weights Tryd.prog 23).all (· ≤ reachBytes) = true := List.all_eq_true.2 fun m hm => List.all_eq_true.1 hsz m (DataW.weights_mem_each (j := 3) rfl rfl m hm)
  obtain ⟨z3, w3⟩ : ∃ z3, Sp.Inb.Ops W a3 len3 z3 := by
    obtain ⟨fuel, hf⟩ := h3
    exact Sp.Inb.ops_arg hf sz3
  clear hA0 hsz0 hsz
  refine (walk a0 a1 len1 cap1 z1 a2 a3 len3 cap3 z3 W w0 w1 w2 w3 (table hL)).mono fun e W' ⟨he, bel⟩ => ?_
  subst he
  exact ⟨_, rfl, _, _, _, [], _, [], hW', trodAll_mk1 (shut_bool Tryd.underlying4 _), (trodAll_cons_mk (shut_int Tryd.underlying22 w0) (trodAll_cons_mk (Below.trod laidOut (by kernel_rfl) (of_decide_eq_true (by kernel_rfl)) k1 bel lt1) (trodAll_cons_mk (shut_int Tryd.underlying41 w2) (trodAll_cons_mk (Below.trod laidOut (by kernel_rfl) (of_decide_eq_true (by kernel_rfl)) k3 bel lt3) trodAll_mk0)))), rfl, bel.frame _, fun h => by cases h⟩

noncomputable def laidWorld (os : Os) : World :=
  { World.holding Tryd.prog os ⟨#[], #[], []⟩ with heap := (World.holding Tryd.prog os ⟨#[], #[], []⟩).heap.modify 0 fun
      | .cells _ t frozen => .cells #[.int .u8 0, .int .u8 1, .int .u8 56, .int .u8 2, .int .u8 57, .int .u8 49, .int .u8 28, .int .u8 3, .int .u8 61, .int .u8 58, .int .u8 42, .int .u8 50, .int .u8 38, .int .u8 29, .int .u8 17, .int .u8 4, .int .u8 62, .int .u8 47, .int .u8 59, .int .u8 36, .int .u8 45, .int .u8 43, .int .u8 51, .int .u8 22, .int .u8 53, .int .u8 39, .int .u8 33, .int .u8 30, .int .u8 24, .int .u8 18, .int .u8 12, .int .u8 5, .int .u8 63, .int .u8 55, .int .u8 48, .int .u8 27, .int .u8 60, .int .u8 41, .int .u8 37, .int .u8 16, .int .u8 46, .int .u8 35, .int .u8 44, .int .u8 21, .int .u8 52, .int .u8 32, .int .u8 23, .int .u8 11, .int .u8 54, .int .u8 26, .int .u8 40, .int .u8 15, .int .u8 34, .int .u8 20, .int .u8 31, .int .u8 10, .int .u8 25, .int .u8 14, .int .u8 19, .int .u8 9, .int .u8 13, .int .u8 8, .int .u8 7, .int .u8 6] t frozen
      | o => o }
theorem laid_met (os : Os) : laidMet Tryd.prog Rows.inboxKeptRow.laid ((laidWorld os).forCall (fun _ _ => 0) ⟨#[], #[.int .u32 0, .slice none 0 0, .int .u16 0, .slice none 0 0], []⟩).memory :=
  laidMet_of_run' 8 (by kernel_rfl) (by kernel_rfl)
theorem reads (os : Os) {H : Type} (enc : TypeId × Value → H) : ∃ places, DataW.whole enc Tryd.prog ((laidWorld os).forCall (fun _ _ => 0) ⟨#[], #[.int .u32 0, .slice none 0 0, .int .u16 0, .slice none 0 0], []⟩).memory Tryd.f6.params.toList Rows.inboxKeptSpec.vars false #[Value.int .u32 0, Value.slice none 0 0, Value.int .u16 0, Value.slice none 0 0].toList 8 = some ([.lit (.int .u32 0), .nil, .lit (.int .u16 0), .nil], [], places) :=
  ⟨[], by kernel_rfl⟩

set_option maxRecDepth 100000 in
theorem lifted (os : Os) (started : os.Started) (H : Type) (enc : TypeId × Value → H) (F : Stop.Interp) :
    ReturnsInHanded {} Tryd.checked os 6 .any ((OpenSpec.ofChange Rows.inboxKeptSpec).preRow enc Tryd.prog Tryd.f6 Rows.inboxKeptRow.domain false Rows.inboxKeptRow.laid) (((OpenSpec.ofChange Rows.inboxKeptSpec).at F).post enc Tryd.prog Tryd.f6 false true false false) := by
  obtain ⟨places, hx⟩ := reads os enc
  refine returnsInHanded_of_row (C := Tryd.checked) (s := OpenSpec.ofChange Rows.inboxKeptSpec) own started (by kernel_rfl) Tryd.func6
    (witness_row_at (enc := enc) (C := Tryd.checked) false (laidWorld os) #[.int .u32 0, .slice none 0 0, .int .u16 0, .slice none 0 0] rfl (by kernel_rfl) (by kernel_rfl) (by kernel_rfl)
      (OpenSpec.preRow_of_cond 8 hx (by kernel_rfl) (fun k hk => by cases hk) (by kernel_rfl) (laid_met os))) ?_
  intro W base args ds gs before hval hW _ hcond hsz hL _ _
  exact contract H enc W base args ds gs before hval hW hsz hL

theorem said : Rows.InboxKeptSaid :=
  OpenClaim.holds_of_cond 6 Tryd.f6 rfl rfl rfl rfl rfl rfl rfl ⟨rfl, rfl, rfl, rfl, rfl⟩ rfl rfl rfl rfl rfl (by kernel_rfl) Tryd.func6 (by kernel_rfl)
    (of_decide_eq_true (by kernel_rfl)) (by unfold Func.isWrapper; first | (rw [if_pos (by decide +kernel)]; kernel_rfl) | (rw [if_neg (by decide +kernel)]; exact ⟨rfl, rfl⟩))
    (fun os started H enc _ F => by rw [OpenClaim.pre_eq_preRow]; exact lifted os started H enc F)

theorem plain (f : FuncId) (fn : Func) (hf : Tryd.pinned.checked.prog.funcNamed "ropewalk/ropewalklaw19.InboxKept" = some f) (hfn : Tryd.pinned.checked.prog.funcs[f]? = some fn) :
    false = Tryd.pinned.checked.prog.looks [] ∧ ∀ (j : Nat) t, fn.params[j]? = some t → Tryd.pinned.checked.prog.wantsStandIn t = false := by
  obtain rfl : f = 6 := Option.some.inj ((show Tryd.prog.funcNamed "ropewalk/ropewalklaw19.InboxKept" = some 6 by kernel_rfl).symm.trans hf) |>.symm
  obtain rfl : fn = Tryd.f6 := (Option.some.inj (Tryd.func6.symm.trans hfn)).symm
  refine ⟨by kernel_rfl, fun j t ht => ?_⟩
  rw [Tryd.params6] at ht
  have hm : t ∈ [22, 23, 41, 23] := by simpa using Array.mem_of_getElem? ht
  have hall : ∀ t ∈ [22, 23, 41, 23], Tryd.prog.wantsStandIn t = false := by
    intro t ht
    simp only [List.mem_cons, List.not_mem_nil, or_false] at ht
    rcases ht with rfl | rfl | rfl | rfl <;> kernel_rfl
  exact hall t hm

/-- THE CARD -/
theorem proved : Rows.InboxKeptCardSaid :=
  Claim7.holds_tied_plain_at .later [] _ _ _ _ said (fun _ h => by cases h) (by kernel_rfl) (fun _ h => by cases h) inboxKept_row_tie rfl ⟨rfl, rfl⟩ (by kernel_rfl) rfl plain (by kernel_rfl)
#print axioms proved
end Go.Proofs.YtdifceikfnnfeaaDoor.inboxKept
