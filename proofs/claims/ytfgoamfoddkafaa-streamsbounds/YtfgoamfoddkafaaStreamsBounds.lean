/-
  No queue holds more than its limit, and a message that is refused changes nothing, for every number of streams, every limit and every row of calls.
  Conditions: none.
-/
import Derived.Test.YtfgoamfoddkafaaRows
import Derived.WalkKit
import Derived.ProofKit
import Derived.OpenShut
import Derived.ShutString
import Derived.ChangeOld
import Derived.Below
import Derived.SizedLaws
import Derived.Deep.DeepHandedRow
import Derived.LaidLaws
import Derived.ChangeMaps5
import Derived.Test.YtfgoamfoddkafaaSqK
import Derived.Test.YtfgoamfoddkafaaSqArgs
namespace Go.Proofs.Ytfgoamfoddkafaa.streamsBounds
open Go.ChangeShapes Go.WideShapes Go.ChangeAt Go.RowKit
open Go.ChangeMaps (open_string shut_string)
set_option linter.unusedVariables false

theorem own : ownKnob Try.prog.godebug = none := by kernel_rfl
theorem laidOut : laidOutB Try.prog = true := by kernel_rfl

open Ba (hidden Has cell_lt)
open Sq
/-- behind a Push -/
def PuO (w1 : World) (t : Nat) (S : St) (F : Nat → Prop) (st pr : Int) (un : Bool) (zs : List Int) (w' : World) : Prop :=
  (∃ F', Cd (fun _ => True) w' t (if pushE S st zs = 0 then pushS S st.toNat pr un zs else S) F' ∧ ∀ k, F' k → F k ∨ w1.heap.size ≤ k) ∧ Mod F w1 w'
theorem run_ixO {b off k n cap : Nat} (hk : k < n) (w : World) : (Instr.indexAt 22 (.slice (some ⟨b, off, none⟩) n cap) (.int .i64 (k : Int))).run Try.prog w = .ok (.pointer (some ⟨b, off + k * 6, none⟩)) w := by
  simp [go_sem, hk]
theorem nextV_shape (S : St) : ∃ x y z, nextV S = .tuple #[.int .u16 x, .int .i64 y, .bool z] := by
  unfold nextV
  split
  · exact ⟨_, _, _, rfl⟩
  · split
    · exact ⟨_, _, _, rfl⟩
    · exact ⟨_, _, _, rfl⟩
set_option maxRecDepth 20000 in
set_option maxHeartbeats 4000000 in

theorem walk (a0 : Int) (a1 : Int) (a2 : Option Addr) (len2 cap2 : Nat) (z2 : List Sq.OA) (w : World) (w0 : (Lit.int .i64 a0).wf = true) (w1 : (Lit.int .i64 a1).wf = true) (w2 : Sq.Ops w a2 len2 z2) (s2 : True) :
    Calls Try.prog 6 #[.int .i64 a0, .int .i64 a1, .slice a2 len2 cap2] w fun e w' => e = .returned (.bool true) ∧ Below w.heap.size w w' := by
  rcases Classical.em (¬ (1 ≤ a0 ∧ a0 ≤ 1024 ∧ 1 ≤ a1 ∧ a1 ≤ 1073741824)) with hok | hok
  · have NE := hidden (new_no a0 a1 hok w)
    have AW := hidden (awake w)
    clear hok
    go_enter Try.func6, Try.ntmps6
    go_wp2_with fail
    refine Calls.mono NE.out ?_
    rintro e w' ⟨rfl, rfl⟩
    go_wp2_with fail
    refine Calls.mono AW.out ?_
    rintro e w' ⟨rfl, hb⟩
    have HB := hidden hb
    clear hb
    go_wp2
    go_ret
    exact ⟨rfl, HB.out⟩
  obtain ⟨o1, o2, o3, o4⟩ := Classical.not_not.1 hok
  clear hok
  obtain ⟨lim, hlim0⟩ : ∃ lim, lim = a1 := ⟨_, rfl⟩
  subst hlim0
  have NE := hidden (new (fun _ => True) a0 lim o1 o2 o3 o4 w)
  have HW2 := hidden w2
  have hn2 := w2.2.2.1
  clear w0 w1 w2 s2 o1 o2 o3 o4
  go_enter Try.func6, Try.ntmps6
  go_wp2_with fail
  refine Calls.mono NE.out ?_
  rintro e v1 ⟨t, rfl, ⟨F1, hc1, hF1⟩, hB1⟩
  have HC1 := hidden (And.intro hc1 (And.intro hF1 hB1))
  clear hc1 hF1 hB1 NE
  go_wp2_with fail
  refine Calls.mono (awake v1) ?_
  rintro e v2 ⟨rfl, hb⟩
  have H2 : Hid (Cd (fun _ => True) v2 t (newS a0.toNat lim) F1 ∧ (∀ k, F1 k → w.heap.size ≤ k) ∧ Below w.heap.size w v2) := ⟨HC1.out.1.later hb, HC1.out.2.1, HC1.out.2.2.trans (hb.mono HC1.out.2.2.size)⟩
  clear hb HC1
  go_wp2_with fail
  go_loopw [9] (fun d wr => ∃ (k : Nat) (S : St) (F : Nat → Prop), d = .int .i64 (k : Int) ∧ k ≤ len2 ∧ Cd (fun _ => True) wr t S F ∧ (∀ k, F k → w.heap.size ≤ k) ∧ Below w.heap.size w wr ∧ lim = S.lim) (fun d wr => len2 - (intOf d).toNat)
  case atStart => exact ⟨0, _, F1, rfl, Nat.zero_le _, H2.out.1, H2.out.2.1, H2.out.2.2, rfl⟩
  case round =>
    obtain ⟨k, S, F, rfl, hk, hcd, hF, hB, hlim⟩ := hrel
    by_cases hkn : k = len2
    · subst hkn
      have HB := hidden hB
      clear hcd hF hB hlim H2
      go_wp2
      go_ret
      exact ⟨rfl, HB.out⟩
    · have hklt : k < len2 := by omega
      obtain ⟨b, off, z, rfl, hz, hzok, hcell⟩ := HW2.out.at hB hklt
      obtain ⟨kd, st, pr, un, a, l, c, zs, n⟩ := z
      obtain ⟨hrow, _, hst, hpr⟩ := hzok
      simp only at hrow hst hpr
      have hlt : (k : Int) < (len2 : Int) := by omega
      obtain ⟨nx, ny, nz, hnx⟩ := nextV_shape S
      have nxt0 := NextX hcd
      rw [hnx] at nxt0
      have HE := hidden (heldX hcd)
      have WA := hidden (waitingX hcd)
      have NX := hidden nxt0
      have HNX := hidden hnx
      have HCD := hidden hcd
      have HF := hidden hF
      have HBB := hidden hB
      have HLIM := hidden hlim
      have HROW := hidden hrow
      have HK := hidden hklt
      have HCL := hidden hcell
      have hw3 : IntKind.i64.wrap ((k : Int) + 1) = (k : Int) + 1 := by rw [IntKind.wrap_i64]; omega
      have HZ := hidden hz
      clear hcd hF hB hlim hrow hcell nxt0 hnx hkn H2 hk hz
      go_wp2_with fail
      refine Calls.mono HE.out ?_
      rintro e w' ⟨rfl, rfl⟩
      go_wp2_with fail
      refine Calls.mono WA.out ?_
      rintro e w' ⟨rfl, rfl⟩
      go_wp2_with fail
      refine Calls.mono NX.out ?_
      rintro e w1 ⟨rfl, hb1⟩
      have hB1 := HBB.out.trans (hb1.mono HBB.out.size)
      have y0 : w1.cell? ⟨b, off + k * 6, none⟩ = some (.int .i64 kd) := (hb1.cell (p := ⟨b, off + k * 6, none⟩) (cell_lt (HCL.out 0 _ rfl))).trans (HCL.out 0 _ rfl)
      have y5 : w1.cell? ⟨b, off + k * 6 + 5, none⟩ = some (.int .i64 n) := (hb1.cell (p := ⟨b, off + k * 6 + 5, none⟩) (cell_lt (HCL.out 5 _ rfl))).trans (HCL.out 5 _ rfl)
      have HY : Hid (w1.cell? ⟨b, off + k * 6 + 1, none⟩ = some (.int .u16 st) ∧ w1.cell? ⟨b, off + k * 6 + 2, none⟩ = some (.int .u32 pr) ∧ w1.cell? ⟨b, off + k * 6 + 3, none⟩ = some (.bool un) ∧ w1.cell? ⟨b, off + k * 6 + 4, none⟩ = some (.slice a l c)) :=
        ⟨(hb1.cell (p := ⟨b, off + k * 6 + 1, none⟩) (cell_lt (HCL.out 1 _ rfl))).trans (HCL.out 1 _ rfl), (hb1.cell (p := ⟨b, off + k * 6 + 2, none⟩) (cell_lt (HCL.out 2 _ rfl))).trans (HCL.out 2 _ rfl), (hb1.cell (p := ⟨b, off + k * 6 + 3, none⟩) (cell_lt (HCL.out 3 _ rfl))).trans (HCL.out 3 _ rfl), (hb1.cell (p := ⟨b, off + k * 6 + 4, none⟩) (cell_lt (HCL.out 4 _ rfl))).trans (HCL.out 4 _ rfl)⟩
      have HC1 := hidden (HCD.out.later hb1)
      have HB1 := hidden hB1
      have hrow1 : Hid (Row w1.drew a l zs) := (HROW.out.later hB1).later ⟨rfl, rfl, rfl, Nat.le_refl _, fun _ _ => rfl⟩
      clear hb1 hB1
      by_cases hk1 : kd = 1
      · subst hk1
        obtain ⟨E, hE⟩ : ∃ E, E = pushE S st zs := ⟨_, rfl⟩
        have PU : Hid (∀ v : World, v = w1.drew → Calls Try.prog 13 #[.pointer (some ⟨t, 0, none⟩), .int .u16 st, .int .u32 pr, .bool un, .slice a l c] v fun e w' => e = .returned (.int .i64 E) ∧ PuO w1 t S F st pr un zs w') := fun v hv => by
          subst hv
          have hc := HC1.out.same (v := w1.drew) rfl
          refine (pushX hc hst hpr un (cap := c) hrow1.out (fun _ _ => trivial)).mono ?_
          rintro e w' ⟨rfl, h1, h2⟩
          rw [hE]
          exact ⟨rfl, h1, h2.drew⟩
        have EP : Hid (∀ (args : Array Value) (w : World), (callFunc 13 args).run Try.prog w = .ok (.enter 13 args) w) := fun _ _ => by kernel_rfl
        have HEE := hidden hE
        clear hE
        by_cases hE0 : E = 0
        · obtain ⟨NE, hNE⟩ : ∃ NE, NE = (E != 0) := ⟨_, rfl⟩
          have HNE := hidden hNE
          have hnf : NE = false := by rw [hNE]; simp [hE0]
          clear hNE
          go_upto_region 13 with fail
          refine Ord.wp_region_ex0 (X := Unit) (by kernel_rfl) 155 (fun x => [(some 53, .pointer (some ⟨t, 0, none⟩)), (some 54, .slice (some ⟨b, off, none⟩) len2 cap2), (some 55, .int .i64 (k : Int)), (some 56, .pointer (some ⟨b, off + k * 6, none⟩)), (some 57, .pointer (some ⟨b, off + k * 6 + 1, none⟩)), (some 58, .int .u16 st), (some 59, .slice (some ⟨b, off, none⟩) len2 cap2), (some 60, .int .i64 (k : Int)), (some 61, .pointer (some ⟨b, off + k * 6, none⟩)), (some 62, .pointer (some ⟨b, off + k * 6 + 2, none⟩)), (some 63, .int .u32 pr), (some 64, .slice (some ⟨b, off, none⟩) len2 cap2), (some 65, .int .i64 (k : Int)), (some 66, .pointer (some ⟨b, off + k * 6, none⟩)), (some 67, .pointer (some ⟨b, off + k * 6 + 3, none⟩)), (some 68, .bool un), (some 69, .slice (some ⟨b, off, none⟩) len2 cap2), (some 70, .int .i64 (k : Int)), (some 71, .pointer (some ⟨b, off + k * 6, none⟩)), (some 72, .pointer (some ⟨b, off + k * 6 + 4, none⟩)), (some 73, .slice a l c), (some 74, .int .i64 E), (some 75, .bool NE)]) [some 53, some 54, some 55, some 56, some 57, some 58, some 59, some 60, some 61, some 62, some 63, some 64, some 65, some 66, some 67, some 68, some 69, some 70, some 71, some 72, some 73, some 74, some 75] rfl (fun listed hsz hr => Ord.all_listedC (rank := [0, 1, 2, 3, 4, 5, 6, 7, 8, 9, 10, 11, 12, 13, 14, 15, 16, 17, 18, 19, 20, 21, 22]) (by kernel_rfl) hsz hr) (by rfl) (fun _ => rfl) (by kernel_rfl) (Rg.StM [21] (fun k x w' => (k = 0 → w' = w1.drew) ∧ (k = 1 → PuO w1 t S F st pr un zs w'))) (fun _ _ _ _ hL h => h.ext (n := 23) (by decide) hL) ?_ ?_ () ?_
          case refine_1 =>
            intro x Lq iq oq ac w' ho hi hcl hdep hF hW
            have f1 : ac.tmps.size = 155 := hF.1
            match iq, ho, hi, hdep with
            | 0, ho, hi, hdep =>
              cases ho
              have da0 : ac.eval (.tmp 7) = .pointer (some ⟨t, 0, none⟩) := hF.old 7 rfl
              exact Ord.ex_value x rfl rfl (Rg.mv da0 rfl) rfl (hW.keep (by decide))
            | 1, ho, hi, hdep =>
              cases ho
              have da0 : ac.eval (.tmp 2) = .slice (some ⟨b, off, none⟩) len2 cap2 := hF.old 2 rfl
              exact Ord.ex_value x rfl rfl (Rg.mv da0 rfl) rfl (hW.keep (by decide))
            | 2, ho, hi, hdep =>
              cases ho
              have da0 : ac.eval (.tmp 9) = .int .i64 (k : Int) := hF.old 9 rfl
              exact Ord.ex_value x rfl rfl (Rg.mv da0 rfl) rfl (hW.keep (by decide))
            | 3, ho, hi, hdep =>
              cases ho
              have da0 : ac.eval (.tmp 54) = .slice (some ⟨b, off, none⟩) len2 cap2 := hF.2.2.2 1 54 _ rfl (hdep ⟨1, .data⟩ (by simp) rfl)
              have da1 : ac.eval (.tmp 55) = .int .i64 (k : Int) := hF.2.2.2 2 55 _ rfl (hdep ⟨2, .data⟩ (by simp) rfl)
              exact Ord.ex_value x rfl rfl (Rg.ix da0 da1 rfl (run_ixO HK.out _)) rfl (hW.keep (by decide))
            | 4, ho, hi, hdep =>
              cases ho
              have da0 : ac.eval (.tmp 56) = .pointer (some ⟨b, off + k * 6, none⟩) := hF.2.2.2 3 56 _ rfl (hdep ⟨3, .data⟩ (by simp) rfl)
              exact Ord.ex_value x rfl rfl (Rg.fa da0 rfl (by simp [go_sem])) rfl (hW.keep (by decide))
            | 5, ho, hi, hdep =>
              cases ho
              have da0 : ac.eval (.tmp 57) = .pointer (some ⟨b, off + k * 6 + 1, none⟩) := hF.2.2.2 4 57 _ rfl (hdep ⟨4, .data⟩ (by simp) rfl)
              obtain ⟨kq, hlo, hhi, hA⟩ := hW.range 0 0 (.inl rfl) (.inr ⟨21, rfl, (Rg.no_of (fun h => hcl 21 _ rfl (h) ⟨5, .data⟩ (by simp) rfl) hi)⟩)
              exact Ord.ex_value x rfl rfl (Rg.load da0 rfl (by rw [hA.1 (by omega)]; simp [go_sem, HY.out.1])) rfl (hW.keep (by decide))
            | 6, ho, hi, hdep =>
              cases ho
              have da0 : ac.eval (.tmp 2) = .slice (some ⟨b, off, none⟩) len2 cap2 := hF.old 2 rfl
              exact Ord.ex_value x rfl rfl (Rg.mv da0 rfl) rfl (hW.keep (by decide))
            | 7, ho, hi, hdep =>
              cases ho
              have da0 : ac.eval (.tmp 9) = .int .i64 (k : Int) := hF.old 9 rfl
              exact Ord.ex_value x rfl rfl (Rg.mv da0 rfl) rfl (hW.keep (by decide))
            | 8, ho, hi, hdep =>
              cases ho
              have da0 : ac.eval (.tmp 59) = .slice (some ⟨b, off, none⟩) len2 cap2 := hF.2.2.2 6 59 _ rfl (hdep ⟨6, .data⟩ (by simp) rfl)
              have da1 : ac.eval (.tmp 60) = .int .i64 (k : Int) := hF.2.2.2 7 60 _ rfl (hdep ⟨7, .data⟩ (by simp) rfl)
              exact Ord.ex_value x rfl rfl (Rg.ix da0 da1 rfl (run_ixO HK.out _)) rfl (hW.keep (by decide))
            | 9, ho, hi, hdep =>
              cases ho
              have da0 : ac.eval (.tmp 61) = .pointer (some ⟨b, off + k * 6, none⟩) := hF.2.2.2 8 61 _ rfl (hdep ⟨8, .data⟩ (by simp) rfl)
              exact Ord.ex_value x rfl rfl (Rg.fa da0 rfl (by simp [go_sem])) rfl (hW.keep (by decide))
            | 10, ho, hi, hdep =>
              cases ho
              have da0 : ac.eval (.tmp 62) = .pointer (some ⟨b, off + k * 6 + 2, none⟩) := hF.2.2.2 9 62 _ rfl (hdep ⟨9, .data⟩ (by simp) rfl)
              obtain ⟨kq, hlo, hhi, hA⟩ := hW.range 0 0 (.inl rfl) (.inr ⟨21, rfl, (Rg.no_of (fun h => hcl 21 _ rfl (h) ⟨10, .data⟩ (by simp) rfl) hi)⟩)
              exact Ord.ex_value x rfl rfl (Rg.load da0 rfl (by rw [hA.1 (by omega)]; simp [go_sem, HY.out.2.1])) rfl (hW.keep (by decide))
            | 11, ho, hi, hdep =>
              cases ho
              have da0 : ac.eval (.tmp 2) = .slice (some ⟨b, off, none⟩) len2 cap2 := hF.old 2 rfl
              exact Ord.ex_value x rfl rfl (Rg.mv da0 rfl) rfl (hW.keep (by decide))
            | 12, ho, hi, hdep =>
              cases ho
              have da0 : ac.eval (.tmp 9) = .int .i64 (k : Int) := hF.old 9 rfl
              exact Ord.ex_value x rfl rfl (Rg.mv da0 rfl) rfl (hW.keep (by decide))
            | 13, ho, hi, hdep =>
              cases ho
              have da0 : ac.eval (.tmp 64) = .slice (some ⟨b, off, none⟩) len2 cap2 := hF.2.2.2 11 64 _ rfl (hdep ⟨11, .data⟩ (by simp) rfl)
              have da1 : ac.eval (.tmp 65) = .int .i64 (k : Int) := hF.2.2.2 12 65 _ rfl (hdep ⟨12, .data⟩ (by simp) rfl)
              exact Ord.ex_value x rfl rfl (Rg.ix da0 da1 rfl (run_ixO HK.out _)) rfl (hW.keep (by decide))
            | 14, ho, hi, hdep =>
              cases ho
              have da0 : ac.eval (.tmp 66) = .pointer (some ⟨b, off + k * 6, none⟩) := hF.2.2.2 13 66 _ rfl (hdep ⟨13, .data⟩ (by simp) rfl)
              exact Ord.ex_value x rfl rfl (Rg.fa da0 rfl (by simp [go_sem])) rfl (hW.keep (by decide))
            | 15, ho, hi, hdep =>
              cases ho
              have da0 : ac.eval (.tmp 67) = .pointer (some ⟨b, off + k * 6 + 3, none⟩) := hF.2.2.2 14 67 _ rfl (hdep ⟨14, .data⟩ (by simp) rfl)
              obtain ⟨kq, hlo, hhi, hA⟩ := hW.range 0 0 (.inl rfl) (.inr ⟨21, rfl, (Rg.no_of (fun h => hcl 21 _ rfl (h) ⟨15, .data⟩ (by simp) rfl) hi)⟩)
              exact Ord.ex_value x rfl rfl (Rg.load da0 rfl (by rw [hA.1 (by omega)]; simp [go_sem, HY.out.2.2.1])) rfl (hW.keep (by decide))
            | 16, ho, hi, hdep =>
              cases ho
              have da0 : ac.eval (.tmp 2) = .slice (some ⟨b, off, none⟩) len2 cap2 := hF.old 2 rfl
              exact Ord.ex_value x rfl rfl (Rg.mv da0 rfl) rfl (hW.keep (by decide))
            | 17, ho, hi, hdep =>
              cases ho
              have da0 : ac.eval (.tmp 9) = .int .i64 (k : Int) := hF.old 9 rfl
              exact Ord.ex_value x rfl rfl (Rg.mv da0 rfl) rfl (hW.keep (by decide))
            | 18, ho, hi, hdep =>
              cases ho
              have da0 : ac.eval (.tmp 69) = .slice (some ⟨b, off, none⟩) len2 cap2 := hF.2.2.2 16 69 _ rfl (hdep ⟨16, .data⟩ (by simp) rfl)
              have da1 : ac.eval (.tmp 70) = .int .i64 (k : Int) := hF.2.2.2 17 70 _ rfl (hdep ⟨17, .data⟩ (by simp) rfl)
              exact Ord.ex_value x rfl rfl (Rg.ix da0 da1 rfl (run_ixO HK.out _)) rfl (hW.keep (by decide))
            | 19, ho, hi, hdep =>
              cases ho
              have da0 : ac.eval (.tmp 71) = .pointer (some ⟨b, off + k * 6, none⟩) := hF.2.2.2 18 71 _ rfl (hdep ⟨18, .data⟩ (by simp) rfl)
              exact Ord.ex_value x rfl rfl (Rg.fa da0 rfl (by simp [go_sem])) rfl (hW.keep (by decide))
            | 20, ho, hi, hdep =>
              cases ho
              have da0 : ac.eval (.tmp 72) = .pointer (some ⟨b, off + k * 6 + 4, none⟩) := hF.2.2.2 19 72 _ rfl (hdep ⟨19, .data⟩ (by simp) rfl)
              obtain ⟨kq, hlo, hhi, hA⟩ := hW.range 0 0 (.inl rfl) (.inr ⟨21, rfl, (Rg.no_of (fun h => hcl 21 _ rfl (h) ⟨20, .data⟩ (by simp) rfl) hi)⟩)
              exact Ord.ex_value x rfl rfl (Rg.load da0 rfl (by rw [hA.1 (by omega)]; simp [go_sem, HY.out.2.2.2])) rfl (hW.keep (by decide))
            | 21, ho, hi, hdep =>
              cases ho
              have da0 : ac.eval (.tmp 53) = .pointer (some ⟨t, 0, none⟩) := hF.2.2.2 0 53 _ rfl (hdep ⟨0, .data⟩ (by simp) rfl)
              have da1 : ac.eval (.tmp 58) = .int .u16 st := hF.2.2.2 5 58 _ rfl (hdep ⟨5, .data⟩ (by simp) rfl)
              have da2 : ac.eval (.tmp 63) = .int .u32 pr := hF.2.2.2 10 63 _ rfl (hdep ⟨10, .data⟩ (by simp) rfl)
              have da3 : ac.eval (.tmp 68) = .bool un := hF.2.2.2 15 68 _ rfl (hdep ⟨15, .data⟩ (by simp) rfl)
              have da4 : ac.eval (.tmp 73) = .slice a l c := hF.2.2.2 20 73 _ rfl (hdep ⟨20, .data⟩ (by simp) rfl)
              have hA := hW.at (k := 0) rfl hi (.inl rfl)
              have hw := hA.1 rfl
              subst hw
              refine Rg.ex_call x rfl rfl (Rg.enter (args := #[.pointer (some ⟨t, 0, none⟩), .int .u16 st, .int .u32 pr, .bool un, .slice a l c]) rfl rfl (by simp [da0, da1, da2, da3, da4]) EP.out) (Calls.mono (PU.out _ rfl) ?_)
              rintro e w2 ⟨rfl, hh⟩
              exact ⟨rfl, hW.next (k := 0) rfl (by decide) hi (.inl rfl) ⟨fun e => absurd e (by decide), fun _ => hh⟩⟩
            | 22, ho, hi, hdep =>
              cases ho
              have da0 : ac.eval (.tmp 74) = .int .i64 E := hF.2.2.2 21 74 _ rfl (hdep ⟨21, .data⟩ (by simp) rfl)
              exact Ord.ex_value x rfl rfl (Rg.bin da0 rfl rfl (by simp [go_sem, HNE.out])) rfl (hW.keep (by decide))
          case refine_3 => exact Rg.StM.first ⟨fun _ => rfl, fun e => absurd e (by decide)⟩
          case refine_2 =>
            intro _ w2 hW
            obtain ⟨⟨F2, h1, h2⟩, h3⟩ := hW.last.2 rfl
            rw [if_pos (HEE.out.symm.trans hE0)] at h1
            have HT : Hid (Cd (fun _ => True) w2 t (pushS S st.toNat pr un zs) F2 ∧ (∀ k, F2 k → w.heap.size ≤ k) ∧ Below w.heap.size w w2) :=
              ⟨h1, fun k hk => (h2 k hk).elim (HF.out k) (fun h => Nat.le_trans HB1.out.size h), HB1.out.trans (h3.below HB1.out.size HF.out)⟩
            have y4 : w2.cell? ⟨b, off + k * 6 + 4, none⟩ = some (.slice a l c) := ((HT.out.2.2.cell (p := ⟨b, off + k * 6 + 4, none⟩) (Nat.lt_of_lt_of_le (cell_lt (HCL.out 4 _ rfl)) (Nat.le_refl _) |> fun h => by
              have := HW2.out.2.2.2.resolve_left (by omega)
              obtain ⟨b', off', e, hcc⟩ := this
              cases e
              exact cell_lt (hcc k _ HZ.out 4 _ rfl))).trans (by
              have := HW2.out.2.2.2.resolve_left (by omega)
              obtain ⟨b', off', e, hcc⟩ := this
              cases e
              exact hcc k _ HZ.out 4 _ rfl))
            have CH : Hid (∀ v : World, v.heap = w2.heap → Calls Try.prog 16 #[.pointer (some ⟨t, 0, none⟩)] v fun e w' => e = .returned (.int .i64 (S.wt + l + S.tk)) ∧ w' = v) := fun v hv => (heldX (h1.same hv)).mono (by
              rintro e w' ⟨rfl, rfl⟩
              refine ⟨?_, rfl⟩
              unfold pushS
              rw [HROW.out.1])
            have gg := HCD.out.1
            have gh := h1.1
            have hwl : IntKind.i64.wrap (S.wt + l + S.tk - (S.wt + S.tk)) = (l : Int) := by
              rw [show S.wt + l + S.tk - (S.wt + S.tk) = (l : Int) by omega, IntKind.wrap_i64]
              have := HROW.out.2.2.1
              omega
            clear hW h1 h2 h3 gg gh
            subst hnf
            simp only [Ord.puts, Ord.prs]
            go_simp
            go_wp2_with fail
            go_quiet (first | (go_at_call 16; exact Calls.quiet_of_same (CH.out _ rfl)))
            obtain ⟨w3, hw3', hh3⟩ : ∃ w3, w2.drewN nq = w3 ∧ Hid (w3.heap = w2.heap ∧ Below w2.heap.size w2 w3) := ⟨_, rfl, rfl, ⟨rfl, rfl, rfl, Nat.le_refl _, fun _ _ => rfl⟩⟩
            rw [hw3']
            clear hw3'
            have HT : Hid (Cd (fun _ => True) w3 t (pushS S st.toNat pr un zs) F2 ∧ (∀ k, F2 k → w.heap.size ≤ k) ∧ Below w.heap.size w w3) := ⟨HT.out.1.same hh3.out.1, HT.out.2.1, HT.out.2.2.trans (hh3.out.2.mono HT.out.2.2.size)⟩
            have HLIM : Hid (lim = (pushS S st.toNat pr un zs).lim) := HLIM.out
            obtain ⟨S2, hS2⟩ : ∃ S2, S2 = pushS S st.toNat pr un zs := ⟨_, rfl⟩
            rw [← hS2] at HT HLIM
            clear hS2
            obtain ⟨u1, u2, u3⟩ := HT.out
            have gg := u1.1
            have n1 : ¬ lim < S2.wt + S2.tk := by have := gg.h; rw [HLIM.out]; omega
            have n2 : ¬ S2.wt + S2.tk < 0 := by have := gg.w1; have := gg.t0; omega
            have hwt : IntKind.i64.wrap (S2.wt + S2.tk) = S2.wt + S2.tk := by rw [IntKind.wrap_i64]; have := gg.h; have := gg.l2; have := gg.w1; have := gg.t0; omega
            have HE := hidden (Sq.heldX u1)
            have WA := hidden (Sq.waitingX u1)
            have TA := hidden (Sq.takenX u1)
            clear u1 u2 u3 gg
            go_wp2_with fail
            refine Calls.mono HE.out ?_
            rintro e w' ⟨rfl, rfl⟩
            go_wp2_with fail
            refine Calls.mono HE.out ?_
            rintro e w' ⟨rfl, rfl⟩
            go_wp2_with fail
            refine Calls.mono HE.out ?_
            rintro e w' ⟨rfl, rfl⟩
            go_wp2_with fail
            refine Calls.mono WA.out ?_
            rintro e w' ⟨rfl, rfl⟩
            go_wp2_with fail
            refine Calls.mono TA.out ?_
            rintro e w' ⟨rfl, rfl⟩
            go_wp2
            go_roundw
            case rel =>
              obtain ⟨u1, u2, u3⟩ := HT.out
              exact ⟨k + 1, S2, F2, by simp, by omega, u1, u2, u3, HLIM.out⟩
            case measure => simp only [intOf]; omega
        · obtain ⟨NE, hNE⟩ : ∃ NE, NE = (E != 0) := ⟨_, rfl⟩
          have HNE := hidden hNE
          have hnf : NE = true := by rw [hNE]; simp [hE0]
          clear hNE
          go_upto_region 13 with fail
          refine Ord.wp_region_ex0 (X := Unit) (by kernel_rfl) 155 (fun x => [(some 53, .pointer (some ⟨t, 0, none⟩)), (some 54, .slice (some ⟨b, off, none⟩) len2 cap2), (some 55, .int .i64 (k : Int)), (some 56, .pointer (some ⟨b, off + k * 6, none⟩)), (some 57, .pointer (some ⟨b, off + k * 6 + 1, none⟩)), (some 58, .int .u16 st), (some 59, .slice (some ⟨b, off, none⟩) len2 cap2), (some 60, .int .i64 (k : Int)), (some 61, .pointer (some ⟨b, off + k * 6, none⟩)), (some 62, .pointer (some ⟨b, off + k * 6 + 2, none⟩)), (some 63, .int .u32 pr), (some 64, .slice (some ⟨b, off, none⟩) len2 cap2), (some 65, .int .i64 (k : Int)), (some 66, .pointer (some ⟨b, off + k * 6, none⟩)), (some 67, .pointer (some ⟨b, off + k * 6 + 3, none⟩)), (some 68, .bool un), (some 69, .slice (some ⟨b, off, none⟩) len2 cap2), (some 70, .int .i64 (k : Int)), (some 71, .pointer (some ⟨b, off + k * 6, none⟩)), (some 72, .pointer (some ⟨b, off + k * 6 + 4, none⟩)), (some 73, .slice a l c), (some 74, .int .i64 E), (some 75, .bool NE)]) [some 53, some 54, some 55, some 56, some 57, some 58, some 59, some 60, some 61, some 62, some 63, some 64, some 65, some 66, some 67, some 68, some 69, some 70, some 71, some 72, some 73, some 74, some 75] rfl (fun listed hsz hr => Ord.all_listedC (rank := [0, 1, 2, 3, 4, 5, 6, 7, 8, 9, 10, 11, 12, 13, 14, 15, 16, 17, 18, 19, 20, 21, 22]) (by kernel_rfl) hsz hr) (by rfl) (fun _ => rfl) (by kernel_rfl) (Rg.StM [21] (fun k x w' => (k = 0 → w' = w1.drew) ∧ (k = 1 → PuO w1 t S F st pr un zs w'))) (fun _ _ _ _ hL h => h.ext (n := 23) (by decide) hL) ?_ ?_ () ?_
          case refine_1 =>
            intro x Lq iq oq ac w' ho hi hcl hdep hF hW
            have f1 : ac.tmps.size = 155 := hF.1
            match iq, ho, hi, hdep with
            | 0, ho, hi, hdep =>
              cases ho
              have da0 : ac.eval (.tmp 7) = .pointer (some ⟨t, 0, none⟩) := hF.old 7 rfl
              exact Ord.ex_value x rfl rfl (Rg.mv da0 rfl) rfl (hW.keep (by decide))
            | 1, ho, hi, hdep =>
              cases ho
              have da0 : ac.eval (.tmp 2) = .slice (some ⟨b, off, none⟩) len2 cap2 := hF.old 2 rfl
              exact Ord.ex_value x rfl rfl (Rg.mv da0 rfl) rfl (hW.keep (by decide))
            | 2, ho, hi, hdep =>
              cases ho
              have da0 : ac.eval (.tmp 9) = .int .i64 (k : Int) := hF.old 9 rfl
              exact Ord.ex_value x rfl rfl (Rg.mv da0 rfl) rfl (hW.keep (by decide))
            | 3, ho, hi, hdep =>
              cases ho
              have da0 : ac.eval (.tmp 54) = .slice (some ⟨b, off, none⟩) len2 cap2 := hF.2.2.2 1 54 _ rfl (hdep ⟨1, .data⟩ (by simp) rfl)
              have da1 : ac.eval (.tmp 55) = .int .i64 (k : Int) := hF.2.2.2 2 55 _ rfl (hdep ⟨2, .data⟩ (by simp) rfl)
              exact Ord.ex_value x rfl rfl (Rg.ix da0 da1 rfl (run_ixO HK.out _)) rfl (hW.keep (by decide))
            | 4, ho, hi, hdep =>
              cases ho
              have da0 : ac.eval (.tmp 56) = .pointer (some ⟨b, off + k * 6, none⟩) := hF.2.2.2 3 56 _ rfl (hdep ⟨3, .data⟩ (by simp) rfl)
              exact Ord.ex_value x rfl rfl (Rg.fa da0 rfl (by simp [go_sem])) rfl (hW.keep (by decide))
            | 5, ho, hi, hdep =>
              cases ho
              have da0 : ac.eval (.tmp 57) = .pointer (some ⟨b, off + k * 6 + 1, none⟩) := hF.2.2.2 4 57 _ rfl (hdep ⟨4, .data⟩ (by simp) rfl)
              obtain ⟨kq, hlo, hhi, hA⟩ := hW.range 0 0 (.inl rfl) (.inr ⟨21, rfl, (Rg.no_of (fun h => hcl 21 _ rfl (h) ⟨5, .data⟩ (by simp) rfl) hi)⟩)
              exact Ord.ex_value x rfl rfl (Rg.load da0 rfl (by rw [hA.1 (by omega)]; simp [go_sem, HY.out.1])) rfl (hW.keep (by decide))
            | 6, ho, hi, hdep =>
              cases ho
              have da0 : ac.eval (.tmp 2) = .slice (some ⟨b, off, none⟩) len2 cap2 := hF.old 2 rfl
              exact Ord.ex_value x rfl rfl (Rg.mv da0 rfl) rfl (hW.keep (by decide))
            | 7, ho, hi, hdep =>
              cases ho
              have da0 : ac.eval (.tmp 9) = .int .i64 (k : Int) := hF.old 9 rfl
              exact Ord.ex_value x rfl rfl (Rg.mv da0 rfl) rfl (hW.keep (by decide))
            | 8, ho, hi, hdep =>
              cases ho
              have da0 : ac.eval (.tmp 59) = .slice (some ⟨b, off, none⟩) len2 cap2 := hF.2.2.2 6 59 _ rfl (hdep ⟨6, .data⟩ (by simp) rfl)
              have da1 : ac.eval (.tmp 60) = .int .i64 (k : Int) := hF.2.2.2 7 60 _ rfl (hdep ⟨7, .data⟩ (by simp) rfl)
              exact Ord.ex_value x rfl rfl (Rg.ix da0 da1 rfl (run_ixO HK.out _)) rfl (hW.keep (by decide))
            | 9, ho, hi, hdep =>
              cases ho
              have da0 : ac.eval (.tmp 61) = .pointer (some ⟨b, off + k * 6, none⟩) := hF.2.2.2 8 61 _ rfl (hdep ⟨8, .data⟩ (by simp) rfl)
              exact Ord.ex_value x rfl rfl (Rg.fa da0 rfl (by simp [go_sem])) rfl (hW.keep (by decide))
            | 10, ho, hi, hdep =>
              cases ho
              have da0 : ac.eval (.tmp 62) = .pointer (some ⟨b, off + k * 6 + 2, none⟩) := hF.2.2.2 9 62 _ rfl (hdep ⟨9, .data⟩ (by simp) rfl)
              obtain ⟨kq, hlo, hhi, hA⟩ := hW.range 0 0 (.inl rfl) (.inr ⟨21, rfl, (Rg.no_of (fun h => hcl 21 _ rfl (h) ⟨10, .data⟩ (by simp) rfl) hi)⟩)
              exact Ord.ex_value x rfl rfl (Rg.load da0 rfl (by rw [hA.1 (by omega)]; simp [go_sem, HY.out.2.1])) rfl (hW.keep (by decide))
            | 11, ho, hi, hdep =>
              cases ho
              have da0 : ac.eval (.tmp 2) = .slice (some ⟨b, off, none⟩) len2 cap2 := hF.old 2 rfl
              exact Ord.ex_value x rfl rfl (Rg.mv da0 rfl) rfl (hW.keep (by decide))
            | 12, ho, hi, hdep =>
              cases ho
              have da0 : ac.eval (.tmp 9) = .int .i64 (k : Int) := hF.old 9 rfl
              exact Ord.ex_value x rfl rfl (Rg.mv da0 rfl) rfl (hW.keep (by decide))
            | 13, ho, hi, hdep =>
              cases ho
              have da0 : ac.eval (.tmp 64) = .slice (some ⟨b, off, none⟩) len2 cap2 := hF.2.2.2 11 64 _ rfl (hdep ⟨11, .data⟩ (by simp) rfl)
              have da1 : ac.eval (.tmp 65) = .int .i64 (k : Int) := hF.2.2.2 12 65 _ rfl (hdep ⟨12, .data⟩ (by simp) rfl)
              exact Ord.ex_value x rfl rfl (Rg.ix da0 da1 rfl (run_ixO HK.out _)) rfl (hW.keep (by decide))
            | 14, ho, hi, hdep =>
              cases ho
              have da0 : ac.eval (.tmp 66) = .pointer (some ⟨b, off + k * 6, none⟩) := hF.2.2.2 13 66 _ rfl (hdep ⟨13, .data⟩ (by simp) rfl)
              exact Ord.ex_value x rfl rfl (Rg.fa da0 rfl (by simp [go_sem])) rfl (hW.keep (by decide))
            | 15, ho, hi, hdep =>
              cases ho
              have da0 : ac.eval (.tmp 67) = .pointer (some ⟨b, off + k * 6 + 3, none⟩) := hF.2.2.2 14 67 _ rfl (hdep ⟨14, .data⟩ (by simp) rfl)
              obtain ⟨kq, hlo, hhi, hA⟩ := hW.range 0 0 (.inl rfl) (.inr ⟨21, rfl, (Rg.no_of (fun h => hcl 21 _ rfl (h) ⟨15, .data⟩ (by simp) rfl) hi)⟩)
              exact Ord.ex_value x rfl rfl (Rg.load da0 rfl (by rw [hA.1 (by omega)]; simp [go_sem, HY.out.2.2.1])) rfl (hW.keep (by decide))
            | 16, ho, hi, hdep =>
              cases ho
              have da0 : ac.eval (.tmp 2) = .slice (some ⟨b, off, none⟩) len2 cap2 := hF.old 2 rfl
              exact Ord.ex_value x rfl rfl (Rg.mv da0 rfl) rfl (hW.keep (by decide))
            | 17, ho, hi, hdep =>
              cases ho
              have da0 : ac.eval (.tmp 9) = .int .i64 (k : Int) := hF.old 9 rfl
              exact Ord.ex_value x rfl rfl (Rg.mv da0 rfl) rfl (hW.keep (by decide))
            | 18, ho, hi, hdep =>
              cases ho
              have da0 : ac.eval (.tmp 69) = .slice (some ⟨b, off, none⟩) len2 cap2 := hF.2.2.2 16 69 _ rfl (hdep ⟨16, .data⟩ (by simp) rfl)
              have da1 : ac.eval (.tmp 70) = .int .i64 (k : Int) := hF.2.2.2 17 70 _ rfl (hdep ⟨17, .data⟩ (by simp) rfl)
              exact Ord.ex_value x rfl rfl (Rg.ix da0 da1 rfl (run_ixO HK.out _)) rfl (hW.keep (by decide))
            | 19, ho, hi, hdep =>
              cases ho
              have da0 : ac.eval (.tmp 71) = .pointer (some ⟨b, off + k * 6, none⟩) := hF.2.2.2 18 71 _ rfl (hdep ⟨18, .data⟩ (by simp) rfl)
              exact Ord.ex_value x rfl rfl (Rg.fa da0 rfl (by simp [go_sem])) rfl (hW.keep (by decide))
            | 20, ho, hi, hdep =>
              cases ho
              have da0 : ac.eval (.tmp 72) = .pointer (some ⟨b, off + k * 6 + 4, none⟩) := hF.2.2.2 19 72 _ rfl (hdep ⟨19, .data⟩ (by simp) rfl)
              obtain ⟨kq, hlo, hhi, hA⟩ := hW.range 0 0 (.inl rfl) (.inr ⟨21, rfl, (Rg.no_of (fun h => hcl 21 _ rfl (h) ⟨20, .data⟩ (by simp) rfl) hi)⟩)
              exact Ord.ex_value x rfl rfl (Rg.load da0 rfl (by rw [hA.1 (by omega)]; simp [go_sem, HY.out.2.2.2])) rfl (hW.keep (by decide))
            | 21, ho, hi, hdep =>
              cases ho
              have da0 : ac.eval (.tmp 53) = .pointer (some ⟨t, 0, none⟩) := hF.2.2.2 0 53 _ rfl (hdep ⟨0, .data⟩ (by simp) rfl)
              have da1 : ac.eval (.tmp 58) = .int .u16 st := hF.2.2.2 5 58 _ rfl (hdep ⟨5, .data⟩ (by simp) rfl)
              have da2 : ac.eval (.tmp 63) = .int .u32 pr := hF.2.2.2 10 63 _ rfl (hdep ⟨10, .data⟩ (by simp) rfl)
              have da3 : ac.eval (.tmp 68) = .bool un := hF.2.2.2 15 68 _ rfl (hdep ⟨15, .data⟩ (by simp) rfl)
              have da4 : ac.eval (.tmp 73) = .slice a l c := hF.2.2.2 20 73 _ rfl (hdep ⟨20, .data⟩ (by simp) rfl)
              have hA := hW.at (k := 0) rfl hi (.inl rfl)
              have hw := hA.1 rfl
              subst hw
              refine Rg.ex_call x rfl rfl (Rg.enter (args := #[.pointer (some ⟨t, 0, none⟩), .int .u16 st, .int .u32 pr, .bool un, .slice a l c]) rfl rfl (by simp [da0, da1, da2, da3, da4]) EP.out) (Calls.mono (PU.out _ rfl) ?_)
              rintro e w2 ⟨rfl, hh⟩
              exact ⟨rfl, hW.next (k := 0) rfl (by decide) hi (.inl rfl) ⟨fun e => absurd e (by decide), fun _ => hh⟩⟩
            | 22, ho, hi, hdep =>
              cases ho
              have da0 : ac.eval (.tmp 74) = .int .i64 E := hF.2.2.2 21 74 _ rfl (hdep ⟨21, .data⟩ (by simp) rfl)
              exact Ord.ex_value x rfl rfl (Rg.bin da0 rfl rfl (by simp [go_sem, HNE.out])) rfl (hW.keep (by decide))
          case refine_3 => exact Rg.StM.first ⟨fun _ => rfl, fun e => absurd e (by decide)⟩
          case refine_2 =>
            intro _ w2 hW
            obtain ⟨⟨F2, h1, h2⟩, h3⟩ := hW.last.2 rfl
            rw [if_neg (fun h => hE0 (HEE.out.trans h))] at h1
            have nxt0 := NextX h1
            rw [HNX.out] at nxt0
            have NX2 := hidden nxt0
            have H2 : Hid (Cd (fun _ => True) w2 t S F2 ∧ (∀ k, F2 k → w.heap.size ≤ k) ∧ Below w.heap.size w w2) :=
              ⟨h1, fun k hk => (h2 k hk).elim (HF.out k) (fun h => Nat.le_trans HB1.out.size h), HB1.out.trans (h3.below HB1.out.size HF.out)⟩
            clear hW h1 h2 h3 nxt0
            subst hnf
            simp only [Ord.puts, Ord.prs]
            go_simp
            go_wp2_with fail
            refine Calls.mono NX2.out ?_
            rintro e w3 ⟨rfl, hb3⟩
            have HT : Hid (Cd (fun _ => True) w3 t S F2 ∧ (∀ k, F2 k → w.heap.size ≤ k) ∧ Below w.heap.size w w3) := ⟨H2.out.1.later hb3, H2.out.2.1, H2.out.2.2.trans (hb3.mono H2.out.2.2.size)⟩
            have HE3 := hidden (heldX HT.out.1)
            have WA3 := hidden (waitingX HT.out.1)
            clear hb3
            go_wp2_with fail
            refine Calls.mono HE3.out ?_
            rintro e w' ⟨rfl, rfl⟩
            go_wp2_with fail
            refine Calls.mono WA3.out ?_
            rintro e w' ⟨rfl, rfl⟩
            obtain ⟨u1, u2, u3⟩ := HT.out
            have gg := u1.1
            have n1 : ¬ lim < S.wt + S.tk := by have := gg.h; rw [HLIM.out]; omega
            have n2 : ¬ S.wt + S.tk < 0 := by have := gg.w1; have := gg.t0; omega
            have hwt : IntKind.i64.wrap (S.wt + S.tk) = S.wt + S.tk := by rw [IntKind.wrap_i64]; have := gg.h; have := gg.l2; have := gg.w1; have := gg.t0; omega
            have HE := hidden (Sq.heldX u1)
            have WA := hidden (Sq.waitingX u1)
            have TA := hidden (Sq.takenX u1)
            clear u1 u2 u3 gg
            go_wp2_with fail
            refine Calls.mono HE.out ?_
            rintro e w' ⟨rfl, rfl⟩
            go_wp2_with fail
            refine Calls.mono HE.out ?_
            rintro e w' ⟨rfl, rfl⟩
            go_wp2_with fail
            refine Calls.mono HE.out ?_
            rintro e w' ⟨rfl, rfl⟩
            go_wp2_with fail
            refine Calls.mono WA.out ?_
            rintro e w' ⟨rfl, rfl⟩
            go_wp2_with fail
            refine Calls.mono TA.out ?_
            rintro e w' ⟨rfl, rfl⟩
            go_wp2
            go_roundw
            case rel =>
              obtain ⟨u1, u2, u3⟩ := HT.out
              exact ⟨k + 1, S, F2, by simp, by omega, u1, u2, u3, HLIM.out⟩
            case measure => simp only [intOf]; omega
      · by_cases hk2 : kd = 2
        · subst hk2
          have TK := hidden (takX HC1.out n)
          go_wp2_with fail
          refine Calls.mono TK.out ?_
          rintro e w2 hT
          obtain ⟨v, S2, F2, rfl, HT, HLIM⟩ : ∃ v S2 F2, e = .returned v ∧ Hid (Cd (fun _ => True) w2 t S2 F2 ∧ (∀ k, F2 k → w.heap.size ≤ k) ∧ Below w.heap.size w w2) ∧ Hid (lim = S2.lim) := by
            rcases hT with ⟨_, rfl, hb⟩ | ⟨i, r, rs, _, _, _, _, x, rfl, _, ⟨F', q1, q2⟩, q3⟩
            · exact ⟨_, S, F, rfl, ⟨HC1.out.later hb, HF.out, HB1.out.trans (hb.mono HB1.out.size)⟩, HLIM.out⟩
            · exact ⟨_, _, F', rfl, ⟨q1, fun k hk => HF.out k (q2 k hk), HB1.out.trans (q3.below HB1.out.size HF.out)⟩, HLIM.out⟩
          clear hT TK
          obtain ⟨u1, u2, u3⟩ := HT.out
          have gg := u1.1
          have n1 : ¬ lim < S2.wt + S2.tk := by have := gg.h; rw [HLIM.out]; omega
          have n2 : ¬ S2.wt + S2.tk < 0 := by have := gg.w1; have := gg.t0; omega
          have hwt : IntKind.i64.wrap (S2.wt + S2.tk) = S2.wt + S2.tk := by rw [IntKind.wrap_i64]; have := gg.h; have := gg.l2; have := gg.w1; have := gg.t0; omega
          have HE := hidden (Sq.heldX u1)
          have WA := hidden (Sq.waitingX u1)
          have TA := hidden (Sq.takenX u1)
          clear u1 u2 u3 gg
          go_wp2_with fail
          refine Calls.mono HE.out ?_
          rintro e w' ⟨rfl, rfl⟩
          go_wp2_with fail
          refine Calls.mono HE.out ?_
          rintro e w' ⟨rfl, rfl⟩
          go_wp2_with fail
          refine Calls.mono HE.out ?_
          rintro e w' ⟨rfl, rfl⟩
          go_wp2_with fail
          refine Calls.mono WA.out ?_
          rintro e w' ⟨rfl, rfl⟩
          go_wp2_with fail
          refine Calls.mono TA.out ?_
          rintro e w' ⟨rfl, rfl⟩
          go_wp2
          go_roundw
          case rel =>
            obtain ⟨u1, u2, u3⟩ := HT.out
            exact ⟨k + 1, S2, F2, by simp, by omega, u1, u2, u3, HLIM.out⟩
          case measure => simp only [intOf]; omega
        · by_cases hk3 : kd = 3
          · subst hk3
            have FR := hidden (freeX HC1.out n)
            go_wp2_with fail
            refine Calls.mono FR.out ?_
            rintro e w2 ⟨rfl, q1, q3⟩
            obtain ⟨S2, hS2⟩ : ∃ S2, S2 = (if freeE S n = 0 then freeS S n else S) := ⟨_, rfl⟩
            rw [← hS2] at q1
            have HT : Hid (Cd (fun _ => True) w2 t S2 F ∧ (∀ k, F k → w.heap.size ≤ k) ∧ Below w.heap.size w w2) := ⟨q1, HF.out, HB1.out.trans (q3.below HB1.out.size HF.out)⟩
            have HLIM : Hid (lim = S2.lim) := by
              rw [hS2]
              by_cases h0 : freeE S n = 0
              · rw [if_pos h0]; exact HLIM.out
              · rw [if_neg h0]; exact HLIM.out
            clear q1 q3 hS2 FR
            obtain ⟨u1, u2, u3⟩ := HT.out
            have gg := u1.1
            have n1 : ¬ lim < S2.wt + S2.tk := by have := gg.h; rw [HLIM.out]; omega
            have n2 : ¬ S2.wt + S2.tk < 0 := by have := gg.w1; have := gg.t0; omega
            have hwt : IntKind.i64.wrap (S2.wt + S2.tk) = S2.wt + S2.tk := by rw [IntKind.wrap_i64]; have := gg.h; have := gg.l2; have := gg.w1; have := gg.t0; omega
            have HE := hidden (Sq.heldX u1)
            have WA := hidden (Sq.waitingX u1)
            have TA := hidden (Sq.takenX u1)
            clear u1 u2 u3 gg
            go_wp2_with fail
            refine Calls.mono HE.out ?_
            rintro e w' ⟨rfl, rfl⟩
            go_wp2_with fail
            refine Calls.mono HE.out ?_
            rintro e w' ⟨rfl, rfl⟩
            go_wp2_with fail
            refine Calls.mono HE.out ?_
            rintro e w' ⟨rfl, rfl⟩
            go_wp2_with fail
            refine Calls.mono WA.out ?_
            rintro e w' ⟨rfl, rfl⟩
            go_wp2_with fail
            refine Calls.mono TA.out ?_
            rintro e w' ⟨rfl, rfl⟩
            go_wp2
            go_roundw
            case rel =>
              obtain ⟨u1, u2, u3⟩ := HT.out
              exact ⟨k + 1, S2, F, by simp, by omega, u1, u2, u3, HLIM.out⟩
            case measure => simp only [intOf]; omega
          · have HT : Hid (Cd (fun _ => True) w1 t S F ∧ (∀ k, F k → w.heap.size ≤ k) ∧ Below w.heap.size w w1) := ⟨HC1.out, HF.out, HB1.out⟩
            obtain ⟨u1, u2, u3⟩ := HT.out
            have gg := u1.1
            have n1 : ¬ lim < S.wt + S.tk := by have := gg.h; rw [HLIM.out]; omega
            have n2 : ¬ S.wt + S.tk < 0 := by have := gg.w1; have := gg.t0; omega
            have hwt : IntKind.i64.wrap (S.wt + S.tk) = S.wt + S.tk := by rw [IntKind.wrap_i64]; have := gg.h; have := gg.l2; have := gg.w1; have := gg.t0; omega
            have HE := hidden (Sq.heldX u1)
            have WA := hidden (Sq.waitingX u1)
            have TA := hidden (Sq.takenX u1)
            clear u1 u2 u3 gg
            go_wp2_with fail
            refine Calls.mono HE.out ?_
            rintro e w' ⟨rfl, rfl⟩
            go_wp2_with fail
            refine Calls.mono HE.out ?_
            rintro e w' ⟨rfl, rfl⟩
            go_wp2_with fail
            refine Calls.mono HE.out ?_
            rintro e w' ⟨rfl, rfl⟩
            go_wp2_with fail
            refine Calls.mono WA.out ?_
            rintro e w' ⟨rfl, rfl⟩
            go_wp2_with fail
            refine Calls.mono TA.out ?_
            rintro e w' ⟨rfl, rfl⟩
            go_wp2
            go_roundw
            case rel =>
              obtain ⟨u1, u2, u3⟩ := HT.out
              exact ⟨k + 1, S, F, by simp, by omega, u1, u2, u3, HLIM.out⟩
            case measure => simp only [intOf]; omega

theorem contract (H : Type) (enc : TypeId × Value → H) (W : World) (base : Nat) (args : Array Value) (ds gs : List (DataW H)) (before : List MemPlace)
    (hval : ∀ (j : Nat) t v, Try.f6.params[j]? = some t → args[j]? = some v → Value.okWide Try.prog W .any base t v)
    (hW : DataW.Whole enc Try.prog Try.f6.params.toList Rows.streamsBoundsSpec.vars false W args.toList ds gs before)
    (hsz0 : (DataW.weightsEach Try.prog (Try.f6.params.toList ++ Rows.streamsBoundsSpec.plain.varTypes Try.prog) (ds ++ gs)).all (· ≤ reachBytes) = true) :
    Calls Try.prog 6 args W fun e W' => ∃ v, e = .returned v ∧ Rows.streamsBoundsSpec.post enc Try.prog Try.f6 false true false false W args v W' := by
  have hW' := hW
  obtain ⟨p, q, hA0, hV, rfl, hfz, hnd⟩ := hW
  have hA : DataW.TrodAll enc Try.prog W 0 (fun _ => true) true Try.f6.params.toList args.toList ds p := hA0
  have hsz := hsz0
  rw [Try.params6] at hA hval hsz
  obtain ⟨v0, vs0, d0, ds0, p0, q0, hargs, rfl, rfl, h0, r0⟩ := trodAll_cons hA
  obtain ⟨v1, vs1, d1, ds1, p1, q1, rfl, rfl, rfl, h1, r1⟩ := trodAll_cons r0
  obtain ⟨v2, vs2, d2, ds2, p2, q2, rfl, rfl, rfl, h2, r2⟩ := trodAll_cons r1
  obtain ⟨rfl, rfl, rfl⟩ := trodAll_nil r2
  obtain rfl : args = #[v0, v1, v2] := by cases args; simp_all
  obtain ⟨rfl, rfl⟩ := trodVars_none hV
  obtain ⟨a0, rfl, rfl, rfl, w0⟩ := open_int Try.underlying3 (hval 0 3 v0 rfl rfl) h0
  obtain ⟨a1, rfl, rfl, rfl, w1⟩ := open_int Try.underlying3 (hval 1 3 v1 rfl rfl) h1
  obtain ⟨a2, len2, cap2, rfl⟩ := okWide_slice Try.underlying22 (hval 2 22 v2 rfl rfl)
  have k2 := h2
  have lt2 : ∀ x ∈ p2, x.block < W.heap.size := by obtain ⟨m, hm⟩ := k2; exact DataW.trod_lt m _ _ _ hm
  have sz2 : (d2.weights Try.prog 22).all (· ≤ reachBytes) = true := List.all_eq_true.2 fun m hm => List.all_eq_true.1 hsz m (DataW.weights_mem_each (j := 2) rfl rfl m hm)
  obtain ⟨z2, w2, s2⟩ : ∃ z2, Sq.Ops W a2 len2 z2 ∧ True := by
    obtain ⟨fuel, hf⟩ := h2
    obtain ⟨vs, h1⟩ := Sq.ops_arg hf sz2
    exact ⟨vs, h1, trivial⟩
  clear hA0 hsz0 hsz
  refine (walk a0 a1 a2 len2 cap2 z2 W w0 w1 w2 s2).mono fun e W' ⟨he, bel⟩ => ?_
  subst he
  exact ⟨_, rfl, _, _, _, [], _, [], hW', trodAll_mk1 (shut_bool Try.underlying4 _), (trodAll_cons_mk (shut_int Try.underlying3 w0) (trodAll_cons_mk (shut_int Try.underlying3 w1) (trodAll_cons_mk (Below.trod laidOut (by kernel_rfl) (of_decide_eq_true (by kernel_rfl)) k2 bel lt2) trodAll_mk0))), rfl, bel.frame _, fun h => by cases h⟩

noncomputable def laidWorld (os : Os) : World :=
  World.holding Try.prog os ⟨#[], #[], []⟩
theorem laid_met (os : Os) : laidMet Try.prog Rows.streamsBoundsRow.laid ((laidWorld os).forCall (fun _ _ => 0) ⟨#[], #[.int .i64 0, .int .i64 0, .slice none 0 0], []⟩).memory :=
  laidMet_of_run' 8 (by kernel_rfl) (by kernel_rfl)
theorem reads (os : Os) {H : Type} (enc : TypeId × Value → H) : ∃ places, DataW.whole enc Try.prog ((laidWorld os).forCall (fun _ _ => 0) ⟨#[], #[.int .i64 0, .int .i64 0, .slice none 0 0], []⟩).memory Try.f6.params.toList Rows.streamsBoundsSpec.vars false #[Value.int .i64 0, Value.int .i64 0, Value.slice none 0 0].toList 8 = some ([.lit (.int .i64 0), .lit (.int .i64 0), .nil], [], places) :=
  ⟨[], by kernel_rfl⟩

set_option maxRecDepth 100000 in
theorem lifted (os : Os) (started : os.Started) (H : Type) (enc : TypeId × Value → H) (F : Stop.Interp) :
    ReturnsInHanded {} Try.checked os 6 .any ((OpenSpec.ofChange Rows.streamsBoundsSpec).preRow enc Try.prog Try.f6 Rows.streamsBoundsRow.domain false Rows.streamsBoundsRow.laid) (((OpenSpec.ofChange Rows.streamsBoundsSpec).at F).post enc Try.prog Try.f6 false true false false) := by
  obtain ⟨places, hx⟩ := reads os enc
  refine returnsInHanded_of_row (C := Try.checked) (s := OpenSpec.ofChange Rows.streamsBoundsSpec) own started (by kernel_rfl) Try.func6
    (witness_row_at (enc := enc) (C := Try.checked) false (laidWorld os) #[.int .i64 0, .int .i64 0, .slice none 0 0] rfl (by kernel_rfl) (by kernel_rfl) (by kernel_rfl)
      (OpenSpec.preRow_of_cond 8 hx (by kernel_rfl) (fun k hk => by cases hk) (by kernel_rfl) (laid_met os))) ?_
  intro W base args ds gs before hval hW _ hcond hsz hL _ _
  exact contract H enc W base args ds gs before hval hW hsz

theorem said : Rows.StreamsBoundsSaid :=
  OpenClaim.holds_of_cond 6 Try.f6 rfl rfl rfl rfl rfl rfl rfl ⟨rfl, rfl, rfl, rfl, rfl⟩ rfl rfl rfl rfl rfl (by kernel_rfl) Try.func6 (by kernel_rfl)
    (of_decide_eq_true (by kernel_rfl)) (by unfold Func.isWrapper; first | (rw [if_pos (by decide +kernel)]; kernel_rfl) | (rw [if_neg (by decide +kernel)]; exact ⟨rfl, rfl⟩))
    (fun os started H enc _ F => by rw [OpenClaim.pre_eq_preRow]; exact lifted os started H enc F)

/-- THE STATEMENT -/
theorem proved : Rows.StreamsBoundsSaid := said
#print axioms proved
end Go.Proofs.Ytfgoamfoddkafaa.streamsBounds
