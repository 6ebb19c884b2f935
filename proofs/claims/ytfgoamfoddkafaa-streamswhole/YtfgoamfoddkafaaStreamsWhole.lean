/-
  The pieces of each stream, put together, are its messages in order, for every messages and whatever sizes.
  Conditions: none.
-/
import Derived.Test.YtfgoamfoddkafaaRows
import Derived.WalkKit
import Derived.ProofKit
import Derived.OpenShut
import Derived.ShutString
import Derived.ChangeOld
import Derived.Below
import Derived.SizedLaws
import Derived.Deep.DeepHandedRow
import Derived.LaidLaws
import Derived.ChangeMaps5
import Derived.Test.YtfgoamfoddkafaaSqP
import Derived.Deep.CutBlock
import Derived.Deep.LoopGhost
namespace Go.Proofs.Ytfgoamfoddkafaa.streamsWhole
open Go.ChangeShapes Go.WideShapes Go.ChangeAt Go.RowKit
open Go.ChangeMaps (open_string shut_string)
set_option linter.unusedVariables false

theorem own : ownKnob Try.prog.godebug = none := by kernel_rfl
theorem laidOut : laidOutB Try.prog = true := by kernel_rfl

open Ba (hidden Has cell_lt)
open Sq
/-- behind a Push -/
def PuO (w1 : World) (t : Nat) (S : St) (F : Nat → Prop) (st pr : Int) (un : Bool) (zs : List Int) (w' : World) : Prop :=
  (∃ F', Cd (fun _ => True) w' t (if pushE S st zs = 0 then pushS S st.toNat pr un zs else S) F' ∧ ∀ k, F' k → F k ∨ w1.heap.size ≤ k) ∧ Mod F w1 w'
theorem run_ixM {b off k n cap : Nat} (hk : k < n) (w : World) : (Instr.indexAt 38 (.slice (some ⟨b, off, none⟩) n cap) (.int .i64 (k : Int))).run Try.prog w = .ok (.pointer (some ⟨b, off + k * 5, none⟩)) w := by
  simp [go_sem, hk]
set_option maxRecDepth 20000 in
set_option maxHeartbeats 4000000 in

theorem walk (a0 : Option Addr) (len0 cap0 : Nat) (z0 : List Sq.MA) (a1 : Option Addr) (len1 cap1 : Nat) (z1 : List Int) (w : World) (w0 : Sq.Msgs w a0 len0 z0) (s0 : True) (w1 : Sq.Ints w a1 len1 z1) (s1 : True) :
    Calls Try.prog 4 #[.slice a0 len0 cap0, .slice a1 len1 cap1] w fun e w' => e = .returned (.bool true) ∧ Below w.heap.size w w' := by
  have N := hidden (new (fun _ => True) 8 1073741824 (by decide) (by decide) (by decide) (by decide) w)
  have HL := hidden w0
  have HS := hidden w1
  have hn0 := w0.2.2.1
  have hn1 := w1.2.2.1
  clear w0 w1 s0 s1
  go_enter Try.func4, Try.ntmps4
  go_wp2_with fail
  refine Calls.mono N.out ?_
  rintro e v1 ⟨t, rfl, ⟨F1, hc1, hF1⟩, hB1⟩
  have HC1 := hidden (And.intro hc1 (And.intro hF1 hB1))
  clear hc1 hF1 hB1 N
  go_wp2_with fail
  refine Calls.mono (awake v1) ?_
  rintro e v2 ⟨rfl, hb2⟩
  have H2 : Hid (Wd w v2 t (newS 8 1073741824) F1 (.slice none 0 0) [] (.slice none 0 0) []) :=
    ⟨HC1.out.1.later hb2, HC1.out.2.1, HC1.out.2.2.trans (hb2.mono HC1.out.2.2.size), ⟨rfl, .inl ⟨rfl, rfl⟩⟩, ⟨⟨rfl, .inl ⟨rfl, rfl⟩⟩, Bytes.nil, by decide⟩, fun z hz => by cases hz⟩
  have H3 : Hid (Wh (newS 8 1073741824) [] []) := ⟨rfl, rfl, (fun i hi => rfl), (fun z hz => by cases hz), (fun _ => rfl), (fun h => by cases h)⟩
  clear hb2 HC1
  go_upto_block 0 with fail
  go_cut [7, 8] from 31 (fun v d wx => ∃ (S : St) (F : Nat → Prop) (ms : List MA), Hid (Wd w wx t S F v ms (.slice none 0 0) [] ∧ Wh S ms [] ∧ ms.length ≤ 200))
  case first =>
    go_wp2_with fail
    go_loopg [7, 8] len0 (fun g v d wr => ∃ (k : Nat) (S : St) (F : Nat → Prop) (ms : List MA), d = .int .i64 (k : Int) ∧ g = len0 - k ∧ k ≤ len0 ∧ k ≤ 200 ∧ ms.length ≤ k ∧ Hid (Wd w wr t S F v ms (.slice none 0 0) [] ∧ Wh S ms [] ∧ S.bgn = false))
    case atStart => exact ⟨0, _, F1, [], rfl, by omega, by omega, by omega, by simp, ⟨H2.out, H3.out, rfl⟩⟩
    case round =>
    obtain ⟨k, S, F, ms, rfl, hgk, hk, hk2, hml, HI⟩ := hrel
    have HGK := hidden hgk
    clear hgk
    by_cases hkn : k = len0
    · subst hkn
      go_wp2_with fail
      go_meet
      case rel => exact ⟨S, F, ms, ⟨HI.out.1, HI.out.2.1, by omega⟩⟩
    · have hklt : k < len0 := by omega
      have hlt : (k : Int) < (len0 : Int) := by omega
      by_cases hk200 : k = 200
      · have hnl : ¬ ((k : Int) < 200) := by omega
        have HM := hidden hml
        clear hml
        go_wp2_with fail
        go_meet
        case rel => exact ⟨S, F, ms, ⟨HI.out.1, HI.out.2.1, by have := HM.out; omega⟩⟩
      · have hlt2 : (k : Int) < 200 := by omega
        obtain ⟨b, off, z, rfl, hz, hzok, hcell⟩ := HL.out.at HI.out.1.bw hklt
        obtain ⟨st, sn, pr, un, a, l, c, zs⟩ := z
        have HZOK := hidden hzok
        obtain ⟨hrow, _, hst, hpr⟩ := hzok
        simp only at hrow hst hpr
        have HY : Hid (wr.cell? ⟨b, off + k * 5, none⟩ = some (.int .u16 st) ∧ wr.cell? ⟨b, off + k * 5 + 2, none⟩ = some (.int .u32 pr) ∧ wr.cell? ⟨b, off + k * 5 + 3, none⟩ = some (.bool un) ∧ wr.cell? ⟨b, off + k * 5 + 4, none⟩ = some (.slice a l c)) := ⟨hcell 0 _ rfl, hcell 2 _ rfl, hcell 3 _ rfl, hcell 4 _ rfl⟩
        have HK := hidden hklt
        have HROW := hidden hrow
        have HM := hidden hml
        have HZ := hidden hz
        have hw3 : IntKind.i64.wrap ((k : Int) + 1) = (k : Int) + 1 := by rw [IntKind.wrap_i64]; omega
        obtain ⟨E, hE⟩ : ∃ E, E = pushE S st zs := ⟨_, rfl⟩
        have PU : Hid (∀ v : World, v = wr.drew → Calls Try.prog 13 #[.pointer (some ⟨t, 0, none⟩), .int .u16 st, .int .u32 pr, .bool un, .slice a l c] v fun e w' => e = .returned (.int .i64 E) ∧ PuO wr t S F st pr un zs w') := fun v hv => by
          subst hv
          have hc := HI.out.1.cd.same (v := wr.drew) rfl
          refine (pushX hc hst hpr un (cap := c) ((HROW.out.later HI.out.1.bw).later ⟨rfl, rfl, rfl, Nat.le_refl _, fun _ _ => rfl⟩) (fun _ _ => trivial)).mono ?_
          rintro e w' ⟨rfl, h1, h2⟩
          rw [hE]
          exact ⟨rfl, h1, h2.drew⟩
        have EP : Hid (∀ (args : Array Value) (w : World), (callFunc 13 args).run Try.prog w = .ok (.enter 13 args) w) := fun _ _ => by kernel_rfl
        have HEE := hidden hE
        have hst0 := hst.1
        clear hE hkn hk200 hrow hcell hml hz
        by_cases hE0 : E = 0
        · obtain ⟨NE, hNE⟩ : ∃ NE, NE = (E == 0) := ⟨_, rfl⟩
          have HNE := hidden hNE
          have hnf : NE = true := by rw [hNE]; simp [hE0]
          clear hNE
          go_upto_region 8 with fail
          refine Ord.wp_region_ex0 (X := Unit) (by kernel_rfl) 200 (fun x => [(some 41, .pointer (some ⟨t, 0, none⟩)), (some 42, .slice (some ⟨b, off, none⟩) len0 cap0), (some 43, .int .i64 (k : Int)), (some 44, .pointer (some ⟨b, off + k * 5, none⟩)), (some 45, .pointer (some ⟨b, off + k * 5, none⟩)), (some 46, .int .u16 st), (some 47, .slice (some ⟨b, off, none⟩) len0 cap0), (some 48, .int .i64 (k : Int)), (some 49, .pointer (some ⟨b, off + k * 5, none⟩)), (some 50, .pointer (some ⟨b, off + k * 5 + 2, none⟩)), (some 51, .int .u32 pr), (some 52, .slice (some ⟨b, off, none⟩) len0 cap0), (some 53, .int .i64 (k : Int)), (some 54, .pointer (some ⟨b, off + k * 5, none⟩)), (some 55, .pointer (some ⟨b, off + k * 5 + 3, none⟩)), (some 56, .bool un), (some 57, .slice (some ⟨b, off, none⟩) len0 cap0), (some 58, .int .i64 (k : Int)), (some 59, .pointer (some ⟨b, off + k * 5, none⟩)), (some 60, .pointer (some ⟨b, off + k * 5 + 4, none⟩)), (some 61, .slice a l c), (some 62, .int .i64 E), (some 63, .bool NE)]) [some 41, some 42, some 43, some 44, some 45, some 46, some 47, some 48, some 49, some 50, some 51, some 52, some 53, some 54, some 55, some 56, some 57, some 58, some 59, some 60, some 61, some 62, some 63] rfl (fun listed hsz hr => Ord.all_listedC (rank := [0, 1, 2, 3, 4, 5, 6, 7, 8, 9, 10, 11, 12, 13, 14, 15, 16, 17, 18, 19, 20, 21, 22]) (by kernel_rfl) hsz hr) (by rfl) (fun _ => rfl) (by kernel_rfl) (Rg.StM [21] (fun k x w' => (k = 0 → w' = wr.drew) ∧ (k = 1 → PuO wr t S F st pr un zs w'))) (fun _ _ _ _ hL h => h.ext (n := 23) (by decide) hL) ?_ ?_ () ?_
          case refine_1 =>
            intro x Lq iq oq ac w' ho hi hcl hdep hF hW
            have f1 : ac.tmps.size = 200 := hF.1
            match iq, ho, hi, hdep with
            | 0, ho, hi, hdep =>
              cases ho
              have da0 : ac.eval (.tmp 5) = .pointer (some ⟨t, 0, none⟩) := hF.old 5 rfl
              exact Ord.ex_value x rfl rfl (Rg.mv da0 rfl) rfl (hW.keep (by decide))
            | 1, ho, hi, hdep =>
              cases ho
              have da0 : ac.eval (.tmp 0) = .slice (some ⟨b, off, none⟩) len0 cap0 := hF.old 0 rfl
              exact Ord.ex_value x rfl rfl (Rg.mv da0 rfl) rfl (hW.keep (by decide))
            | 2, ho, hi, hdep =>
              cases ho
              have da0 : ac.eval (.tmp 8) = .int .i64 (k : Int) := hF.old 8 rfl
              exact Ord.ex_value x rfl rfl (Rg.mv da0 rfl) rfl (hW.keep (by decide))
            | 3, ho, hi, hdep =>
              cases ho
              have da0 : ac.eval (.tmp 42) = .slice (some ⟨b, off, none⟩) len0 cap0 := hF.2.2.2 1 42 _ rfl (hdep ⟨1, .data⟩ (by simp) rfl)
              have da1 : ac.eval (.tmp 43) = .int .i64 (k : Int) := hF.2.2.2 2 43 _ rfl (hdep ⟨2, .data⟩ (by simp) rfl)
              exact Ord.ex_value x rfl rfl (Rg.ix da0 da1 rfl (run_ixM HK.out _)) rfl (hW.keep (by decide))
            | 4, ho, hi, hdep =>
              cases ho
              have da0 : ac.eval (.tmp 44) = .pointer (some ⟨b, off + k * 5, none⟩) := hF.2.2.2 3 44 _ rfl (hdep ⟨3, .data⟩ (by simp) rfl)
              exact Ord.ex_value x rfl rfl (Rg.fa da0 rfl (by simp [go_sem])) rfl (hW.keep (by decide))
            | 5, ho, hi, hdep =>
              cases ho
              have da0 : ac.eval (.tmp 45) = .pointer (some ⟨b, off + k * 5, none⟩) := hF.2.2.2 4 45 _ rfl (hdep ⟨4, .data⟩ (by simp) rfl)
              obtain ⟨kq, hlo, hhi, hA⟩ := hW.range 0 0 (.inl rfl) (.inr ⟨21, rfl, (Rg.no_of (fun h => hcl 21 _ rfl (h) ⟨5, .data⟩ (by simp) rfl) hi)⟩)
              exact Ord.ex_value x rfl rfl (Rg.load da0 rfl (by rw [hA.1 (by omega)]; simp [go_sem, HY.out.1])) rfl (hW.keep (by decide))
            | 6, ho, hi, hdep =>
              cases ho
              have da0 : ac.eval (.tmp 0) = .slice (some ⟨b, off, none⟩) len0 cap0 := hF.old 0 rfl
              exact Ord.ex_value x rfl rfl (Rg.mv da0 rfl) rfl (hW.keep (by decide))
            | 7, ho, hi, hdep =>
              cases ho
              have da0 : ac.eval (.tmp 8) = .int .i64 (k : Int) := hF.old 8 rfl
              exact Ord.ex_value x rfl rfl (Rg.mv da0 rfl) rfl (hW.keep (by decide))
            | 8, ho, hi, hdep =>
              cases ho
              have da0 : ac.eval (.tmp 47) = .slice (some ⟨b, off, none⟩) len0 cap0 := hF.2.2.2 6 47 _ rfl (hdep ⟨6, .data⟩ (by simp) rfl)
              have da1 : ac.eval (.tmp 48) = .int .i64 (k : Int) := hF.2.2.2 7 48 _ rfl (hdep ⟨7, .data⟩ (by simp) rfl)
              exact Ord.ex_value x rfl rfl (Rg.ix da0 da1 rfl (run_ixM HK.out _)) rfl (hW.keep (by decide))
            | 9, ho, hi, hdep =>
              cases ho
              have da0 : ac.eval (.tmp 49) = .pointer (some ⟨b, off + k * 5, none⟩) := hF.2.2.2 8 49 _ rfl (hdep ⟨8, .data⟩ (by simp) rfl)
              exact Ord.ex_value x rfl rfl (Rg.fa da0 rfl (by simp [go_sem])) rfl (hW.keep (by decide))
            | 10, ho, hi, hdep =>
              cases ho
              have da0 : ac.eval (.tmp 50) = .pointer (some ⟨b, off + k * 5 + 2, none⟩) := hF.2.2.2 9 50 _ rfl (hdep ⟨9, .data⟩ (by simp) rfl)
              obtain ⟨kq, hlo, hhi, hA⟩ := hW.range 0 0 (.inl rfl) (.inr ⟨21, rfl, (Rg.no_of (fun h => hcl 21 _ rfl (h) ⟨10, .data⟩ (by simp) rfl) hi)⟩)
              exact Ord.ex_value x rfl rfl (Rg.load da0 rfl (by rw [hA.1 (by omega)]; simp [go_sem, HY.out.2.1])) rfl (hW.keep (by decide))
            | 11, ho, hi, hdep =>
              cases ho
              have da0 : ac.eval (.tmp 0) = .slice (some ⟨b, off, none⟩) len0 cap0 := hF.old 0 rfl
              exact Ord.ex_value x rfl rfl (Rg.mv da0 rfl) rfl (hW.keep (by decide))
            | 12, ho, hi, hdep =>
              cases ho
              have da0 : ac.eval (.tmp 8) = .int .i64 (k : Int) := hF.old 8 rfl
              exact Ord.ex_value x rfl rfl (Rg.mv da0 rfl) rfl (hW.keep (by decide))
            | 13, ho, hi, hdep =>
              cases ho
              have da0 : ac.eval (.tmp 52) = .slice (some ⟨b, off, none⟩) len0 cap0 := hF.2.2.2 11 52 _ rfl (hdep ⟨11, .data⟩ (by simp) rfl)
              have da1 : ac.eval (.tmp 53) = .int .i64 (k : Int) := hF.2.2.2 12 53 _ rfl (hdep ⟨12, .data⟩ (by simp) rfl)
              exact Ord.ex_value x rfl rfl (Rg.ix da0 da1 rfl (run_ixM HK.out _)) rfl (hW.keep (by decide))
            | 14, ho, hi, hdep =>
              cases ho
              have da0 : ac.eval (.tmp 54) = .pointer (some ⟨b, off + k * 5, none⟩) := hF.2.2.2 13 54 _ rfl (hdep ⟨13, .data⟩ (by simp) rfl)
              exact Ord.ex_value x rfl rfl (Rg.fa da0 rfl (by simp [go_sem])) rfl (hW.keep (by decide))
            | 15, ho, hi, hdep =>
              cases ho
              have da0 : ac.eval (.tmp 55) = .pointer (some ⟨b, off + k * 5 + 3, none⟩) := hF.2.2.2 14 55 _ rfl (hdep ⟨14, .data⟩ (by simp) rfl)
              obtain ⟨kq, hlo, hhi, hA⟩ := hW.range 0 0 (.inl rfl) (.inr ⟨21, rfl, (Rg.no_of (fun h => hcl 21 _ rfl (h) ⟨15, .data⟩ (by simp) rfl) hi)⟩)
              exact Ord.ex_value x rfl rfl (Rg.load da0 rfl (by rw [hA.1 (by omega)]; simp [go_sem, HY.out.2.2.1])) rfl (hW.keep (by decide))
            | 16, ho, hi, hdep =>
              cases ho
              have da0 : ac.eval (.tmp 0) = .slice (some ⟨b, off, none⟩) len0 cap0 := hF.old 0 rfl
              exact Ord.ex_value x rfl rfl (Rg.mv da0 rfl) rfl (hW.keep (by decide))
            | 17, ho, hi, hdep =>
              cases ho
              have da0 : ac.eval (.tmp 8) = .int .i64 (k : Int) := hF.old 8 rfl
              exact Ord.ex_value x rfl rfl (Rg.mv da0 rfl) rfl (hW.keep (by decide))
            | 18, ho, hi, hdep =>
              cases ho
              have da0 : ac.eval (.tmp 57) = .slice (some ⟨b, off, none⟩) len0 cap0 := hF.2.2.2 16 57 _ rfl (hdep ⟨16, .data⟩ (by simp) rfl)
              have da1 : ac.eval (.tmp 58) = .int .i64 (k : Int) := hF.2.2.2 17 58 _ rfl (hdep ⟨17, .data⟩ (by simp) rfl)
              exact Ord.ex_value x rfl rfl (Rg.ix da0 da1 rfl (run_ixM HK.out _)) rfl (hW.keep (by decide))
            | 19, ho, hi, hdep =>
              cases ho
              have da0 : ac.eval (.tmp 59) = .pointer (some ⟨b, off + k * 5, none⟩) := hF.2.2.2 18 59 _ rfl (hdep ⟨18, .data⟩ (by simp) rfl)
              exact Ord.ex_value x rfl rfl (Rg.fa da0 rfl (by simp [go_sem])) rfl (hW.keep (by decide))
            | 20, ho, hi, hdep =>
              cases ho
              have da0 : ac.eval (.tmp 60) = .pointer (some ⟨b, off + k * 5 + 4, none⟩) := hF.2.2.2 19 60 _ rfl (hdep ⟨19, .data⟩ (by simp) rfl)
              obtain ⟨kq, hlo, hhi, hA⟩ := hW.range 0 0 (.inl rfl) (.inr ⟨21, rfl, (Rg.no_of (fun h => hcl 21 _ rfl (h) ⟨20, .data⟩ (by simp) rfl) hi)⟩)
              exact Ord.ex_value x rfl rfl (Rg.load da0 rfl (by rw [hA.1 (by omega)]; simp [go_sem, HY.out.2.2.2])) rfl (hW.keep (by decide))
            | 21, ho, hi, hdep =>
              cases ho
              have da0 : ac.eval (.tmp 41) = .pointer (some ⟨t, 0, none⟩) := hF.2.2.2 0 41 _ rfl (hdep ⟨0, .data⟩ (by simp) rfl)
              have da1 : ac.eval (.tmp 46) = .int .u16 st := hF.2.2.2 5 46 _ rfl (hdep ⟨5, .data⟩ (by simp) rfl)
              have da2 : ac.eval (.tmp 51) = .int .u32 pr := hF.2.2.2 10 51 _ rfl (hdep ⟨10, .data⟩ (by simp) rfl)
              have da3 : ac.eval (.tmp 56) = .bool un := hF.2.2.2 15 56 _ rfl (hdep ⟨15, .data⟩ (by simp) rfl)
              have da4 : ac.eval (.tmp 61) = .slice a l c := hF.2.2.2 20 61 _ rfl (hdep ⟨20, .data⟩ (by simp) rfl)
              have hA := hW.at (k := 0) rfl hi (.inl rfl)
              have hw := hA.1 rfl
              subst hw
              refine Rg.ex_call x rfl rfl (Rg.enter (args := #[.pointer (some ⟨t, 0, none⟩), .int .u16 st, .int .u32 pr, .bool un, .slice a l c]) rfl rfl (by simp [da0, da1, da2, da3, da4]) EP.out) (Calls.mono (PU.out _ rfl) ?_)
              rintro e w2 ⟨rfl, hh⟩
              exact ⟨rfl, hW.next (k := 0) rfl (by decide) hi (.inl rfl) ⟨fun e => absurd e (by decide), fun _ => hh⟩⟩
            | 22, ho, hi, hdep =>
              cases ho
              have da0 : ac.eval (.tmp 62) = .int .i64 E := hF.2.2.2 21 62 _ rfl (hdep ⟨21, .data⟩ (by simp) rfl)
              exact Ord.ex_value x rfl rfl (Rg.bin da0 rfl rfl (by simp [go_sem, HNE.out])) rfl (hW.keep (by decide))
          case refine_3 => exact Rg.StM.first ⟨fun _ => rfl, fun e => absurd e (by decide)⟩
          case refine_2 =>
            intro _ w2 hW
            obtain ⟨⟨F2, h1, h2⟩, h3⟩ := hW.last.2 rfl
            have hp0 := HEE.out.symm.trans hE0
            rw [if_pos hp0] at h1
            have hd2 := HI.out.1.step h3 h1 h2
            have hs8 : st < 8 := by
              unfold pushE at hp0
              rw [HI.out.2.1.n] at hp0
              split at hp0
              · cases hp0
              · omega
            have hB2 : Below w2.heap.size w2 (w2.alloc (.cells (mc ⟨st, sn, pr, un, a, l, c, zs⟩).toArray 42)) := (Below.refl _ w2).alloc (Nat.le_refl _) _
            have hd3 := hd2.later hB2
            obtain ⟨v4, w4, hrun, hm4, hg4, _⟩ := app_msgs (ns := [⟨st, sn, pr, un, a, l, c, zs⟩]) (ad := ⟨w2.heap.size, 0, none⟩) (c := 1) hd3.om hd3.bw.size (by have := HM.out; simp; omega) (.inl (by simp)) (fun j u hj => by
              rw [add_at, Nat.zero_add]
              refine (Has.new w2 (mc ⟨st, sn, pr, un, a, l, c, zs⟩).toArray 42).cell j ?_
              simp only [msc, List.flatMap_cons, List.flatMap_nil, List.append_nil] at hj
              rw [← hj]
              exact List.getElem?_toArray (xs := mc ⟨st, sn, pr, un, a, l, c, zs⟩) (i := j)) 38
            have HD4 : Hid (Wd w w4 t (pushS S st.toNat pr un zs) F2 v4 (ms ++ [⟨st, sn, pr, un, a, l, c, zs⟩]) (.slice none 0 0) []) := hd3.msgs hg4 hm4 (fun z hz => by
              rcases List.mem_append.1 hz with h | h
              · exact HI.out.1.ok z h
              · rw [List.mem_singleton] at h; subst h; exact HZOK.out)
            have HW4 : Hid (Wh (pushS S st.toNat pr un zs) (ms ++ [⟨st, sn, pr, un, a, l, c, zs⟩]) []) := HI.out.2.1.push (z := ⟨st, sn, pr, un, a, l, c, zs⟩) HI.out.2.2 ⟨hst0, hs8⟩
            have HRUN : Hid ((Builtin.append_ #[38, 38] 38 #[u7, .slice (some ⟨w2.heap.size, 0, none⟩) 1 1]).run Try.prog (w2.alloc (.cells #[.int .u16 st, .int .u16 sn, .int .u32 pr, .bool un, .slice a l c] 42)) = .ok v4 w4) := hrun
            obtain ⟨b', off', z', e1, e2, _, hcell⟩ := HL.out.at hd2.bw HK.out
            cases e1
            rw [HZ.out] at e2
            cases e2
            have y0 : w2.cell? ⟨b, off + k * 5, none⟩ = some (.int .u16 st) := hcell 0 _ rfl
            have y1 := hcell 1 _ rfl
            have y2 := hcell 2 _ rfl
            have y3 := hcell 3 _ rfl
            have y4 := hcell 4 _ rfl
            have hbl : b < w2.heap.size := cell_lt y0
            clear hW h1 h2 h3 hd2 hd3 hrun hm4 hg4 hcell hB2 hp0
            subst hnf
            simp only [Ord.puts, Ord.prs]
            go_simp
            go_wp2_with (at_builtin; refine Rg.wpList_app rfl _ _ _ rfl rfl rfl HRUN.out ?_; clear HRUN)
            go_wp2
            go_roundg (len0 - (k + 1))
            case measure => rw [HGK.out]; omega
            case rel => exact ⟨k + 1, _, F2, _, by simp, rfl, by omega, by omega, (by have := HM.out; simp; omega), ⟨HD4.out, HW4.out, HI.out.2.2⟩⟩
        · obtain ⟨NE, hNE⟩ : ∃ NE, NE = (E == 0) := ⟨_, rfl⟩
          have HNE := hidden hNE
          have hnf : NE = false := by rw [hNE]; simp [hE0]
          clear hNE
          go_upto_region 8 with fail
          refine Ord.wp_region_ex0 (X := Unit) (by kernel_rfl) 200 (fun x => [(some 41, .pointer (some ⟨t, 0, none⟩)), (some 42, .slice (some ⟨b, off, none⟩) len0 cap0), (some 43, .int .i64 (k : Int)), (some 44, .pointer (some ⟨b, off + k * 5, none⟩)), (some 45, .pointer (some ⟨b, off + k * 5, none⟩)), (some 46, .int .u16 st), (some 47, .slice (some ⟨b, off, none⟩) len0 cap0), (some 48, .int .i64 (k : Int)), (some 49, .pointer (some ⟨b, off + k * 5, none⟩)), (some 50, .pointer (some ⟨b, off + k * 5 + 2, none⟩)), (some 51, .int .u32 pr), (some 52, .slice (some ⟨b, off, none⟩) len0 cap0), (some 53, .int .i64 (k : Int)), (some 54, .pointer (some ⟨b, off + k * 5, none⟩)), (some 55, .pointer (some ⟨b, off + k * 5 + 3, none⟩)), (some 56, .bool un), (some 57, .slice (some ⟨b, off, none⟩) len0 cap0), (some 58, .int .i64 (k : Int)), (some 59, .pointer (some ⟨b, off + k * 5, none⟩)), (some 60, .pointer (some ⟨b, off + k * 5 + 4, none⟩)), (some 61, .slice a l c), (some 62, .int .i64 E), (some 63, .bool NE)]) [some 41, some 42, some 43, some 44, some 45, some 46, some 47, some 48, some 49, some 50, some 51, some 52, some 53, some 54, some 55, some 56, some 57, some 58, some 59, some 60, some 61, some 62, some 63] rfl (fun listed hsz hr => Ord.all_listedC (rank := [0, 1, 2, 3, 4, 5, 6, 7, 8, 9, 10, 11, 12, 13, 14, 15, 16, 17, 18, 19, 20, 21, 22]) (by kernel_rfl) hsz hr) (by rfl) (fun _ => rfl) (by kernel_rfl) (Rg.StM [21] (fun k x w' => (k = 0 → w' = wr.drew) ∧ (k = 1 → PuO wr t S F st pr un zs w'))) (fun _ _ _ _ hL h => h.ext (n := 23) (by decide) hL) ?_ ?_ () ?_
          case refine_1 =>
            intro x Lq iq oq ac w' ho hi hcl hdep hF hW
            have f1 : ac.tmps.size = 200 := hF.1
            match iq, ho, hi, hdep with
            | 0, ho, hi, hdep =>
              cases ho
              have da0 : ac.eval (.tmp 5) = .pointer (some ⟨t, 0, none⟩) := hF.old 5 rfl
              exact Ord.ex_value x rfl rfl (Rg.mv da0 rfl) rfl (hW.keep (by decide))
            | 1, ho, hi, hdep =>
              cases ho
              have da0 : ac.eval (.tmp 0) = .slice (some ⟨b, off, none⟩) len0 cap0 := hF.old 0 rfl
              exact Ord.ex_value x rfl rfl (Rg.mv da0 rfl) rfl (hW.keep (by decide))
            | 2, ho, hi, hdep =>
              cases ho
              have da0 : ac.eval (.tmp 8) = .int .i64 (k : Int) := hF.old 8 rfl
              exact Ord.ex_value x rfl rfl (Rg.mv da0 rfl) rfl (hW.keep (by decide))
            | 3, ho, hi, hdep =>
              cases ho
              have da0 : ac.eval (.tmp 42) = .slice (some ⟨b, off, none⟩) len0 cap0 := hF.2.2.2 1 42 _ rfl (hdep ⟨1, .data⟩ (by simp) rfl)
              have da1 : ac.eval (.tmp 43) = .int .i64 (k : Int) := hF.2.2.2 2 43 _ rfl (hdep ⟨2, .data⟩ (by simp) rfl)
              exact Ord.ex_value x rfl rfl (Rg.ix da0 da1 rfl (run_ixM HK.out _)) rfl (hW.keep (by decide))
            | 4, ho, hi, hdep =>
              cases ho
              have da0 : ac.eval (.tmp 44) = .pointer (some ⟨b, off + k * 5, none⟩) := hF.2.2.2 3 44 _ rfl (hdep ⟨3, .data⟩ (by simp) rfl)
              exact Ord.ex_value x rfl rfl (Rg.fa da0 rfl (by simp [go_sem])) rfl (hW.keep (by decide))
            | 5, ho, hi, hdep =>
              cases ho
              have da0 : ac.eval (.tmp 45) = .pointer (some ⟨b, off + k * 5, none⟩) := hF.2.2.2 4 45 _ rfl (hdep ⟨4, .data⟩ (by simp) rfl)
              obtain ⟨kq, hlo, hhi, hA⟩ := hW.range 0 0 (.inl rfl) (.inr ⟨21, rfl, (Rg.no_of (fun h => hcl 21 _ rfl (h) ⟨5, .data⟩ (by simp) rfl) hi)⟩)
              exact Ord.ex_value x rfl rfl (Rg.load da0 rfl (by rw [hA.1 (by omega)]; simp [go_sem, HY.out.1])) rfl (hW.keep (by decide))
            | 6, ho, hi, hdep =>
              cases ho
              have da0 : ac.eval (.tmp 0) = .slice (some ⟨b, off, none⟩) len0 cap0 := hF.old 0 rfl
              exact Ord.ex_value x rfl rfl (Rg.mv da0 rfl) rfl (hW.keep (by decide))
            | 7, ho, hi, hdep =>
              cases ho
              have da0 : ac.eval (.tmp 8) = .int .i64 (k : Int) := hF.old 8 rfl
              exact Ord.ex_value x rfl rfl (Rg.mv da0 rfl) rfl (hW.keep (by decide))
            | 8, ho, hi, hdep =>
              cases ho
              have da0 : ac.eval (.tmp 47) = .slice (some ⟨b, off, none⟩) len0 cap0 := hF.2.2.2 6 47 _ rfl (hdep ⟨6, .data⟩ (by simp) rfl)
              have da1 : ac.eval (.tmp 48) = .int .i64 (k : Int) := hF.2.2.2 7 48 _ rfl (hdep ⟨7, .data⟩ (by simp) rfl)
              exact Ord.ex_value x rfl rfl (Rg.ix da0 da1 rfl (run_ixM HK.out _)) rfl (hW.keep (by decide))
            | 9, ho, hi, hdep =>
              cases ho
              have da0 : ac.eval (.tmp 49) = .pointer (some ⟨b, off + k * 5, none⟩) := hF.2.2.2 8 49 _ rfl (hdep ⟨8, .data⟩ (by simp) rfl)
              exact Ord.ex_value x rfl rfl (Rg.fa da0 rfl (by simp [go_sem])) rfl (hW.keep (by decide))
            | 10, ho, hi, hdep =>
              cases ho
              have da0 : ac.eval (.tmp 50) = .pointer (some ⟨b, off + k * 5 + 2, none⟩) := hF.2.2.2 9 50 _ rfl (hdep ⟨9, .data⟩ (by simp) rfl)
              obtain ⟨kq, hlo, hhi, hA⟩ := hW.range 0 0 (.inl rfl) (.inr ⟨21, rfl, (Rg.no_of (fun h => hcl 21 _ rfl (h) ⟨10, .data⟩ (by simp) rfl) hi)⟩)
              exact Ord.ex_value x rfl rfl (Rg.load da0 rfl (by rw [hA.1 (by omega)]; simp [go_sem, HY.out.2.1])) rfl (hW.keep (by decide))
            | 11, ho, hi, hdep =>
              cases ho
              have da0 : ac.eval (.tmp 0) = .slice (some ⟨b, off, none⟩) len0 cap0 := hF.old 0 rfl
              exact Ord.ex_value x rfl rfl (Rg.mv da0 rfl) rfl (hW.keep (by decide))
            | 12, ho, hi, hdep =>
              cases ho
              have da0 : ac.eval (.tmp 8) = .int .i64 (k : Int) := hF.old 8 rfl
              exact Ord.ex_value x rfl rfl (Rg.mv da0 rfl) rfl (hW.keep (by decide))
            | 13, ho, hi, hdep =>
              cases ho
              have da0 : ac.eval (.tmp 52) = .slice (some ⟨b, off, none⟩) len0 cap0 := hF.2.2.2 11 52 _ rfl (hdep ⟨11, .data⟩ (by simp) rfl)
              have da1 : ac.eval (.tmp 53) = .int .i64 (k : Int) := hF.2.2.2 12 53 _ rfl (hdep ⟨12, .data⟩ (by simp) rfl)
              exact Ord.ex_value x rfl rfl (Rg.ix da0 da1 rfl (run_ixM HK.out _)) rfl (hW.keep (by decide))
            | 14, ho, hi, hdep =>
              cases ho
              have da0 : ac.eval (.tmp 54) = .pointer (some ⟨b, off + k * 5, none⟩) := hF.2.2.2 13 54 _ rfl (hdep ⟨13, .data⟩ (by simp) rfl)
              exact Ord.ex_value x rfl rfl (Rg.fa da0 rfl (by simp [go_sem])) rfl (hW.keep (by decide))
            | 15, ho, hi, hdep =>
              cases ho
              have da0 : ac.eval (.tmp 55) = .pointer (some ⟨b, off + k * 5 + 3, none⟩) := hF.2.2.2 14 55 _ rfl (hdep ⟨14, .data⟩ (by simp) rfl)
              obtain ⟨kq, hlo, hhi, hA⟩ := hW.range 0 0 (.inl rfl) (.inr ⟨21, rfl, (Rg.no_of (fun h => hcl 21 _ rfl (h) ⟨15, .data⟩ (by simp) rfl) hi)⟩)
              exact Ord.ex_value x rfl rfl (Rg.load da0 rfl (by rw [hA.1 (by omega)]; simp [go_sem, HY.out.2.2.1])) rfl (hW.keep (by decide))
            | 16, ho, hi, hdep =>
              cases ho
              have da0 : ac.eval (.tmp 0) = .slice (some ⟨b, off, none⟩) len0 cap0 := hF.old 0 rfl
              exact Ord.ex_value x rfl rfl (Rg.mv da0 rfl) rfl (hW.keep (by decide))
            | 17, ho, hi, hdep =>
              cases ho
              have da0 : ac.eval (.tmp 8) = .int .i64 (k : Int) := hF.old 8 rfl
              exact Ord.ex_value x rfl rfl (Rg.mv da0 rfl) rfl (hW.keep (by decide))
            | 18, ho, hi, hdep =>
              cases ho
              have da0 : ac.eval (.tmp 57) = .slice (some ⟨b, off, none⟩) len0 cap0 := hF.2.2.2 16 57 _ rfl (hdep ⟨16, .data⟩ (by simp) rfl)
              have da1 : ac.eval (.tmp 58) = .int .i64 (k : Int) := hF.2.2.2 17 58 _ rfl (hdep ⟨17, .data⟩ (by simp) rfl)
              exact Ord.ex_value x rfl rfl (Rg.ix da0 da1 rfl (run_ixM HK.out _)) rfl (hW.keep (by decide))
            | 19, ho, hi, hdep =>
              cases ho
              have da0 : ac.eval (.tmp 59) = .pointer (some ⟨b, off + k * 5, none⟩) := hF.2.2.2 18 59 _ rfl (hdep ⟨18, .data⟩ (by simp) rfl)
              exact Ord.ex_value x rfl rfl (Rg.fa da0 rfl (by simp [go_sem])) rfl (hW.keep (by decide))
            | 20, ho, hi, hdep =>
              cases ho
              have da0 : ac.eval (.tmp 60) = .pointer (some ⟨b, off + k * 5 + 4, none⟩) := hF.2.2.2 19 60 _ rfl (hdep ⟨19, .data⟩ (by simp) rfl)
              obtain ⟨kq, hlo, hhi, hA⟩ := hW.range 0 0 (.inl rfl) (.inr ⟨21, rfl, (Rg.no_of (fun h => hcl 21 _ rfl (h) ⟨20, .data⟩ (by simp) rfl) hi)⟩)
              exact Ord.ex_value x rfl rfl (Rg.load da0 rfl (by rw [hA.1 (by omega)]; simp [go_sem, HY.out.2.2.2])) rfl (hW.keep (by decide))
            | 21, ho, hi, hdep =>
              cases ho
              have da0 : ac.eval (.tmp 41) = .pointer (some ⟨t, 0, none⟩) := hF.2.2.2 0 41 _ rfl (hdep ⟨0, .data⟩ (by simp) rfl)
              have da1 : ac.eval (.tmp 46) = .int .u16 st := hF.2.2.2 5 46 _ rfl (hdep ⟨5, .data⟩ (by simp) rfl)
              have da2 : ac.eval (.tmp 51) = .int .u32 pr := hF.2.2.2 10 51 _ rfl (hdep ⟨10, .data⟩ (by simp) rfl)
              have da3 : ac.eval (.tmp 56) = .bool un := hF.2.2.2 15 56 _ rfl (hdep ⟨15, .data⟩ (by simp) rfl)
              have da4 : ac.eval (.tmp 61) = .slice a l c := hF.2.2.2 20 61 _ rfl (hdep ⟨20, .data⟩ (by simp) rfl)
              have hA := hW.at (k := 0) rfl hi (.inl rfl)
              have hw := hA.1 rfl
              subst hw
              refine Rg.ex_call x rfl rfl (Rg.enter (args := #[.pointer (some ⟨t, 0, none⟩), .int .u16 st, .int .u32 pr, .bool un, .slice a l c]) rfl rfl (by simp [da0, da1, da2, da3, da4]) EP.out) (Calls.mono (PU.out _ rfl) ?_)
              rintro e w2 ⟨rfl, hh⟩
              exact ⟨rfl, hW.next (k := 0) rfl (by decide) hi (.inl rfl) ⟨fun e => absurd e (by decide), fun _ => hh⟩⟩
            | 22, ho, hi, hdep =>
              cases ho
              have da0 : ac.eval (.tmp 62) = .int .i64 E := hF.2.2.2 21 62 _ rfl (hdep ⟨21, .data⟩ (by simp) rfl)
              exact Ord.ex_value x rfl rfl (Rg.bin da0 rfl rfl (by simp [go_sem, HNE.out])) rfl (hW.keep (by decide))
          case refine_3 => exact Rg.StM.first ⟨fun _ => rfl, fun e => absurd e (by decide)⟩
          case refine_2 =>
            intro _ w2 hW
            obtain ⟨⟨F2, h1, h2⟩, h3⟩ := hW.last.2 rfl
            rw [if_neg (fun h => hE0 (HEE.out.trans h))] at h1
            have HD2 := hidden (HI.out.1.step h3 h1 h2)
            clear hW h1 h2 h3
            subst hnf
            simp only [Ord.puts, Ord.prs]
            go_simp
            go_wp2
            go_roundg (len0 - (k + 1))
            case measure => rw [HGK.out]; omega
            case rel => exact ⟨k + 1, S, F2, ms, by simp, rfl, by omega, by omega, (by have := HM.out; omega), ⟨HD2.out, HI.out.2⟩⟩
  case rest =>
    obtain ⟨S0, F0, ms0, HC⟩ := hcut
    obtain ⟨B, hB⟩ : ∃ B, B = wc.heap.size := ⟨_, rfl⟩
    have HB := hidden hB
    clear hB
    go_wp2_with fail
    go_loopg [7, 9, 10] (S0.wt.toNat) (fun g v ov d wr => ∃ (k : Nat) (S : St) (F : Nat → Prop) (ms : List MA) (op : List Int), d = .int .i64 (k : Int) ∧ g = S.wt.toNat ∧ Hid (Lp w B wr t S F v ms ov op k))
    case atStart =>
      refine ⟨0, S0, F0, ms0, [], rfl, rfl, ⟨HC.out.1, HC.out.2.1, HC.out.1.cd.named (fun k cur _ hh => HB.out ▸ hh.lt), (fun k hk => by cases hk), ⟨HB.out ▸ HC.out.1.bw.size, Nat.le_of_eq HB.out⟩, HC.out.2.2, ?_, ?_⟩⟩
      · have h1 := HC.out.1.cd.1.h
        have h2 := HC.out.1.cd.1.t0
        have h3 := HC.out.2.1.l
        simp only [Int.ofNat_zero, Int.zero_add]
        omega
      · have h1 := HC.out.1.cd.1.h
        have h2 := HC.out.1.cd.1.t0
        have h3 := HC.out.2.1.l
        simp only [List.length_nil]
        omega
    case round =>
    obtain ⟨k, S, F, ms, op, rfl, hgk, HJ⟩ := hrel
    have HGK := hidden hgk
    clear hgk
    go_upto_region 13 with fail
    go_step
    go_step
    go_step
    go_step
    go_step
    go_step
    go_step
    go_step
    go_cut [11] from 71 to 199 (fun nv wx => ∃ n : Int, nv = .int .i64 n ∧ 1 ≤ n ∧ Hid (wr = wx))
    case first =>
      by_cases hb : k < len1
      · obtain ⟨b, off, z, rfl, hz, hzok, hcell⟩ := HS.out.at HJ.out.wd.bw hb
        have c1 : wr.cell? ⟨b, off + k, none⟩ = some (.int .i64 z) := by have := hcell 0 _ rfl; simpa using this
        have hlt : (k : Int) < (len1 : Int) := by omega
        clear hz hzok hcell
        by_cases hp : 0 < z
        · go_wp2_with fail
          go_meet
          case rel => exact ⟨z, rfl, by omega, rfl⟩
        · go_wp2_with fail
          go_meet
          case rel => exact ⟨1048576, rfl, by omega, rfl⟩
      · have hlt : ¬ ((k : Int) < (len1 : Int)) := by omega
        go_wp2_with fail
        go_meet
        case rel => exact ⟨1048576, rfl, by omega, rfl⟩
    case rest =>
    obtain ⟨n, rfl, hn1, HWX⟩ := hcut
    have hww := HWX.out
    subst hww
    clear HWX
    have TK := hidden (takX HJ.out.cd n)
    go_wp2_with fail
    refine Calls.mono TK.out ?_
    rintro e w5 hT
    rcases hT with ⟨ht1, rfl, hb5⟩ | ⟨i, r, rs, _, hx, hR, _, x, rfl, hmx, ⟨F5, hc5, hF5⟩, hm5⟩
    · obtain ⟨hm0, ho0, hw0⟩ := HJ.out.wh.done HJ.out.cd.1 (tak_none HJ.out.cd.1 hn1 ht1)
      obtain ⟨va, vcap, hv⟩ := Ba.own_len HJ.out.wd.om
      obtain ⟨oa, ocap, hov, _⟩ := HJ.out.wd.mi.row
      have hv0 : u7 = .slice va 0 vcap := by rw [hv, hm0]; rfl
      have ho1 : u9 = .slice oa 0 ocap := by rw [hov, ho0]; rfl
      have hB6 : Below wr.heap.size wr (w5.alloc (.cells #[.int .u16 0, .int .u16 0, .int .u32 0, .bool false, .slice none 0 0, .bool false, .bool false] 44)) := hb5.alloc hb5.size _
      have WA := waitingX (HJ.out.cd.later hB6)
      rw [hw0] at WA
      have HWA := hidden WA
      have HBW := hidden (HJ.out.wd.bw.trans (hB6.mono HJ.out.wd.bw.size))
      clear hm0 ho0 hw0 hv hov hB6 WA hb5 ht1 TK HJ
      subst hv0 ho1
      unfold zPv
      go_wp2_with fail
      refine Calls.mono HWA.out ?_
      rintro e w' ⟨rfl, rfl⟩
      go_wp2
      go_ret
      exact ⟨rfl, HBW.out⟩
    · have hg := HJ.out.cd.1
      have h8 := HJ.out.wh.n
      obtain ⟨hi8, _⟩ := nxt_some hg.n1 hx
      have hok : OkR i r := hg.ok i r hi8 (by rw [hR]; exact List.mem_cons_self ..)
      have hdl : 1 ≤ (r.d.take n.toNat).length ∧ ((r.d.take n.toNat).length : Int) ≤ n := by rw [List.length_take]; have := hok.2.2.2.2.2.2.1; omega
      obtain ⟨hbg, hla⟩ := HJ.out.wh.bg hg hx hR
      have hms : (takeS S i r rs n).wt.toNat < S.wt.toNat := by
        show (S.wt - (r.d.take n.toNat).length).toNat < S.wt.toNat
        have h1 := (hg.take hx hR hn1).w1
        change 0 ≤ S.wt - (r.d.take n.toNat).length at h1
        omega
      have hst : (cut r (S.sn i) n).st = (i : Int) := hok.1
      have hcb : (cut r (S.sn i) n).bg = r.bg := rfl
      have hcd : (cut r (S.sn i) n).d = r.d.take n.toNat := rfl
      have hcp : (cut r (S.sn i) n).pr = r.pr := rfl
      have hcu : (cut r (S.sn i) n).un = r.un := rfl
      have hce : (cut r (S.sn i) n).en = decide ((r.d.length : Int) ≤ n) := rfl
      generalize cut r (S.sn i) n = cc at hmx hst hcb hcd hcp hcu hce ⊢
      obtain ⟨cst, csn, cpr, cun, cdd, cbg, cen⟩ := cc
      simp only at hst hcb hcd hcp hcu hce hmx
      subst hst hcd hcp hcu
      obtain ⟨xa0, xc, hxe, hxr, _, hxn⟩ := hmx.row
      obtain ⟨xa, rfl⟩ : ∃ xa, xa0 = some xa := by
        cases xa0 with
        | none => have := (hxn rfl).1; omega
        | some xa => exact ⟨xa, rfl⟩
      obtain ⟨xl, hxl⟩ : ∃ xl, xl = (r.d.take n.toNat).length := ⟨_, rfl⟩
      rw [← hxl] at hxe hxr hdl
      subst hxe
      obtain ⟨oa, ocap, hov, _, _, _⟩ := HJ.out.wd.mi.row
      obtain ⟨ol, hol⟩ : ∃ ol, ol = op.length := ⟨_, rfl⟩
      rw [← hol] at hov
      have hbo : ((ol : Int) == 0) = cbg := by
        rw [hcb, hbg]
        cases hbb : S.bgn with
        | false => rw [hol, HJ.out.wh.o hbb]; rfl
        | true =>
          have := HJ.out.wh.p hbb
          have : op.length ≠ 0 := fun e => this (List.eq_nil_of_length_eq_zero e)
          simp
          omega
      have HOL := hidden hol
      have hB6 : Below w5.heap.size w5 (w5.alloc (.cells #[.int .u16 (i : Int), .int .u16 csn, .int .u32 r.pr, .bool r.un, .slice (some xa) xl xc, .bool cbg, .bool cen] 44)) := (Below.refl _ w5).alloc (Nat.le_refl _) _
      have hbx : Has (w5.alloc (.cells #[.int .u16 (i : Int), .int .u16 csn, .int .u32 r.pr, .bool r.un, .slice (some xa) xl xc, .bool cbg, .bool cen] 44)) w5.heap.size #[.int .u16 (i : Int), .int .u16 csn, .int .u32 r.pr, .bool r.un, .slice (some xa) xl xc, .bool cbg, .bool cen] 44 := Has.new _ _ _
      obtain ⟨ov', w7, hrun, hd7, hc7, hob7, hB7, hty7⟩ := HJ.out.piece (xc := xc) hx hR hn1 hm5 hc5 hF5 hB6 (hxr.later hB6) (by omega)
      have hbx7 := hty7 _ _ _ hbx (by decide)
      have hwk : IntKind.i64.wrap ((k : Int) + 1) = (k : Int) + 1 := by rw [IntKind.wrap_i64]; have := HJ.out.kw; have := hg.w1; omega
      have HMS := hidden hms
      have HRUN := hidden hrun
      have HD7 := hidden hd7
      have HC7 := hidden hc7
      have HOB7 := hidden hob7
      have HB7 := hidden hB7
      have HX := hidden hx
      have HR := hidden hR
      have hx1 := hdl.1
      have hx2 := hdl.2
      have x6 := hbx7.cell 6 rfl
      have HBX7 := hidden hbx7
      have HXL := hidden hxl
      have hnx : ¬ n < (xl : Int) := by omega
      have hnz : ((xl : Int) == 0) = false := by simp; omega
      have hnd : decide (n < (xl : Int)) = false := decide_eq_false (by omega)
      clear hms hrun hd7 hc7 hob7 hB7 hty7 hbx7 hB6 hbx hmx hc5 hF5 hm5 hxr hxn hok hdl hla hbg hcb hx hR hg h8 TK hxl hol
      subst hov
      by_cases hl : (r.d.length : Int) ≤ n
      · have hct : cen = true := by rw [hce]; exact decide_eq_true hl
        have HLE := hidden hl
        obtain ⟨A, z, B2, hms, hA, hz, hzz, hzp, hzu, hwh⟩ := HJ.out.wh.last HJ.out.cd.1 HX.out HR.out hl
        obtain ⟨L, hL⟩ : ∃ L, L = ms.length := ⟨_, rfl⟩
        obtain ⟨na, hna⟩ : ∃ na, na = A.length := ⟨_, rfl⟩
        have hat : ms[na]? = some z := by rw [hms, hna, List.getElem?_append_right (Nat.le_refl _)]; simp
        obtain ⟨g, vcap, hv, hvc, hvm, hzc⟩ := ms_at HD7.out.om hat
        rw [← hL] at hv hvc
        have hLn : na < L ∧ L ≤ 200 := by
          have := HJ.out.ml
          rw [hL, hms, hna, List.length_append, List.length_cons]
          rw [hms, List.length_append, List.length_cons] at this
          omega
        have hwl : IntKind.i64.wrap ((L : Int) - 1) = (L : Int) - 1 := by rw [IntKind.wrap_i64]; omega
        have HW := hidden hwh
        have HMS2 := hidden (And.intro hms (And.intro hL (And.intro hna (And.intro hA hz))))
        have HZ := hidden (And.intro hzz (And.intro hzp hzu))
        clear hce hl hms hL hna hA hz hwh hzz hzp hzu hat hzc
        subst hct
        subst hv
        unfold pcv
        go_wp2_with (at_builtin; refine Rg.wpList_app rfl _ _ _ rfl rfl rfl HRUN.out ?_; clear HRUN)
        go_wp2_with fail
        go_loopg [14, 15] L (fun gg at_ d wx => ∃ (j : Nat) (q dj : Int), d = .int .i64 dj ∧ dj = (j : Int) - 1 ∧ gg = j ∧ j ≤ L ∧ at_ = .int .i64 q ∧ (j ≤ na → q = na) ∧ Hid (Below w7.heap.size w7 wx))
        case atStart => exact ⟨L, -1, _, rfl, rfl, rfl, Nat.le_refl _, rfl, fun h => by omega, Below.refl _ _⟩
        case round =>
        obtain ⟨j, q, dj, rfl, hdj, hgj, hjl, rfl, hjq, HBX⟩ := hrel
        by_cases hj0 : j = 0
        · obtain rfl : q = (na : Int) := hjq (by omega)
          obtain rfl : dj = -1 := by omega
          have hat : ms[na]? = some z := by rw [HMS2.out.1, HMS2.out.2.2.1, List.getElem?_append_right (Nat.le_refl _)]; simp
          obtain ⟨g', vcap', hv', _, _, hzc⟩ := ms_at HD7.out.om hat
          obtain ⟨rfl, rfl⟩ : g' = g ∧ vcap' = vcap := by cases hv'; exact ⟨rfl, rfl⟩
          have zc : ∀ c u, (mc z)[c]? = some u → wr.cell? ⟨g', na * 5 + c, none⟩ = some u := fun c u hu => (HBX.out.cell (p := ⟨g', na * 5 + c, none⟩) (cell_lt (hzc c u hu))).trans (hzc c u hu)
          have z2 : wr.cell? ⟨g', na * 5 + 2, none⟩ = some (.int .u32 r.pr) := by rw [zc 2 _ rfl, HZ.out.2.1]
          have z3 : wr.cell? ⟨g', na * 5 + 3, none⟩ = some (.bool r.un) := by rw [zc 3 _ rfl, HZ.out.2.2]
          have z4 : wr.cell? ⟨g', na * 5 + 4, none⟩ = some (.slice z.a z.l z.c) := zc 4 _ rfl
          have hbox := HBX7.out.later HBX.out
          have b2 := hbox.cell 2 rfl
          have b3 := hbox.cell 3 rfl
          obtain ⟨ss, hss⟩ : ∃ ss, ss = strOfNums z.zs := ⟨_, rfl⟩
          have hzop : z.zs = op ++ r.d.take n.toNat := by rw [HZ.out.1, List.take_of_length_le (by have := HLE.out; omega)]
          have hBw := HD7.out.bw.trans (HBX.out.mono HD7.out.bw.size)
          have hzk := HD7.out.ok z (List.mem_of_getElem? hat)
          have cvA : ∀ j, (convert 34 9 (.slice z.a z.l z.c)).run Try.prog (wr.drewN j) = .ok (.string ss) (wr.drewN j) := fun j => by
            rw [hss]
            exact ((hzk.1.later hBw).later (w' := wr.drewN j) ⟨rfl, rfl, rfl, Nat.le_refl _, fun _ _ => rfl⟩).conv z.c
          obtain ⟨oa7, oc7, hov7, hor7, _⟩ := HD7.out.mi.row
          rw [← hzop] at hov7 hor7
          obtain ⟨ol7, hol7⟩ : ∃ ol7, ol7 = z.zs.length := ⟨_, rfl⟩
          rw [← hol7] at hov7 hor7
          have cvB : ∀ j, (convert 34 9 (.slice oa7 ol7 oc7)).run Try.prog (wr.drewN j) = .ok (.string ss) (wr.drewN j) := fun j => by
            rw [hss]
            exact ((hor7.later HBX.out).later (w' := wr.drewN j) ⟨rfl, rfl, rfl, Nat.le_refl _, fun _ _ => rfl⟩).conv oc7
          obtain ⟨za, zl, zcp, hza, hzl, hzcp⟩ : ∃ za zl zcp, za = z.a ∧ zl = z.l ∧ zcp = z.c := ⟨_, _, _, rfl, rfl, rfl⟩
          rw [← hza, ← hzl, ← hzcp] at z4 cvA
          have hna0 : ¬ ((na : Int) < 0) := by omega
          have hnb : decide ((na : Int) < 0) = false := decide_eq_false hna0
          have hnL := hLn.1
          have hwn : IntKind.i64.wrap ((na : Int) + 1) = (na : Int) + 1 := by rw [IntKind.wrap_i64]; omega
          have HLN := hidden hLn
          subst hov7
          clear hat hzc zc hbox hss hzop hBw hzk hor7 hol7 hza hzl hzcp hdj hgj hjq hj0 hv' hjl hLn
          go_upto_region 29 with fail
          go_quiet (fail)
          obtain ⟨w9, hw9, hh9⟩ : ∃ w9, wr.drewN nq = w9 ∧ Hid (Below w7.heap.size w7 w9) := ⟨_, rfl, HBX.out.trans ⟨rfl, rfl, rfl, Nat.le_refl _, fun _ _ => rfl⟩⟩
          rw [hw9]
          clear hw9
          have hd9 := HD7.out.later hh9.out
          rw [HMS2.out.1] at hd9
          have hbl : B2.length = L - (na + 1) := by rw [HMS2.out.2.1, HMS2.out.1, HMS2.out.2.2.1, List.length_append, List.length_cons]; omega
          obtain ⟨ad, hif, had⟩ : ∃ ad, (if vcap' = na + 1 then some (⟨g', 0, none⟩ : Addr) else some ⟨g', (na + 1) * 5, none⟩) = some ad ∧ (B2 ≠ [] → ad = ⟨g', (A.length + 1) * 5, none⟩) := by
            by_cases he : vcap' = na + 1
            · exact ⟨_, if_pos he, fun hne => absurd (List.eq_nil_of_length_eq_zero (by omega)) hne⟩
            · exact ⟨_, if_neg he, fun _ => by rw [HMS2.out.2.2.1]⟩
          obtain ⟨v10, w10, v11, w11, r1, r2, m11, hB11⟩ := hd9.out (by rw [← HMS2.out.1]; exact HJ.out.ml) (vcap' - (na + 1)) ad had
          rw [← HMS2.out.2.2.1] at r1
          rw [hbl] at r2
          have R1 := hidden r1
          have R2 := hidden r2
          have HM11 := hidden (And.intro m11 hB11)
          have hv10 := r2
          clear hd9 r1 r2 m11 hB11 hbl hv10 had
          go_upto_region 32 with (at_builtin; refine Rg.wpList_app rfl _ _ _ rfl rfl rfl R1.out ?_; clear R1)
          go_wp2_with (at_builtin; refine Rg.wpList_app rfl _ _ _ rfl rfl rfl R2.out ?_; clear R2)
          go_wp2
          go_roundg ((takeS S i r rs n).wt.toNat)
          case measure => rw [HGK.out]; exact HMS.out
          case rel =>
            have h1 := HJ.out.kw
            have h3 : (takeS S i r rs n).wt = S.wt - (r.d.take n.toNat).length := rfl
            have h4 := HXL.out
            have hB := hh9.out.trans (HM11.out.2.mono hh9.out.size)
            have hd := HD7.out.later hB
            have hg := (HC7.out).1
            refine ⟨k + 1, _, F5, A ++ B2, [], by simp, rfl, ⟨⟨hd.cd, hd.fb, hd.bw, own_le HM11.out.1 (Nat.le_trans HD7.out.bw.size hh9.out.size), ⟨⟨rfl, .inl ⟨rfl, rfl⟩⟩, Bytes.nil, by decide⟩, fun y hy => HD7.out.ok y (by rw [HMS2.out.1]; rcases List.mem_append.1 hy with q | q <;> simp [q])⟩, HW.out, HC7.out.later hB, (fun k hk => by cases hk), ⟨HJ.out.bb.1, Nat.le_trans HB7.out hB.size⟩, ?_, by rw [h3]; omega, ?_⟩⟩
            · have := HJ.out.ml
              rw [HMS2.out.1, List.length_append, List.length_cons] at this
              rw [List.length_append]
              omega
            · have := HJ.out.ow
              rw [h3]
              simp only [List.length_nil]
              omega
        · obtain ⟨jj, rfl⟩ : ∃ jj, j = jj + 1 := ⟨j - 1, by omega⟩
          obtain rfl : dj = (jj : Int) := by omega
          have hge : (0 : Int) ≤ (jj : Int) := by omega
          have hjlt : (jj : Int) < (L : Int) := by omega
          have hjlt2 : jj < L := by omega
          obtain ⟨y, hy⟩ : ∃ y, ms[jj]? = some y := ⟨_, List.getElem?_eq_getElem (by have := HMS2.out.2.1; omega)⟩
          obtain ⟨g', vcap', hv', _, _, hyc⟩ := ms_at (HD7.out.om) hy
          obtain ⟨rfl, rfl⟩ : g' = g ∧ vcap' = vcap := by cases hv'; exact ⟨rfl, rfl⟩
          have y0 : wr.cell? ⟨g', jj * 5, none⟩ = some (.int .u16 y.st) := (HBX.out.cell (p := ⟨g', jj * 5, none⟩) (cell_lt (hyc 0 _ rfl))).trans (hyc 0 _ rfl)
          have b0 := (HBX7.out.later HBX.out).cell 0 rfl
          have hwj : IntKind.i64.wrap ((jj : Int) - 1) = (jj : Int) - 1 := by rw [IntKind.wrap_i64]; omega
          have HY := hidden hy
          have HJQ := hidden hjq
          have HGJ := hidden hgj
          clear hv' hyc hy hjq hgj hdj hj0
          by_cases hyi : y.st = (i : Int)
          · rw [hyi] at y0
            have HYI := hidden hyi
            clear hyi
            go_wp2_with fail
            go_quiet (fail)
            go_wp2
            go_roundg jj
            case measure => rw [HGJ.out]; omega
            case rel =>
              refine ⟨jj, (jj : Int), _, rfl, rfl, rfl, by omega, rfl, fun h => ?_, HBX.out.trans ⟨rfl, rfl, rfl, Nat.le_refl _, fun _ _ => rfl⟩⟩
              obtain ⟨q1, q2, q3, q4, q5⟩ := HMS2.out
              have := at_eq q4 (by rw [← q1]; exact HY.out) HYI.out (by omega)
              omega
          · have HYI := hidden hyi
            obtain ⟨ys, hys⟩ : ∃ ys, ys = y.st := ⟨_, rfl⟩
            rw [← hys] at y0 hyi
            have hyb : (ys == (i : Int)) = false := by simpa using hyi
            clear hys
            go_wp2_with fail
            go_quiet (fail)
            go_wp2
            go_roundg jj
            case measure => rw [HGJ.out]; omega
            case rel =>
              refine ⟨jj, q, _, rfl, rfl, rfl, by omega, rfl, fun h => ?_, HBX.out.trans ⟨rfl, rfl, rfl, Nat.le_refl _, fun _ _ => rfl⟩⟩
              obtain ⟨q1, q2, q3, q4, q5⟩ := HMS2.out
              have := at_ne q5 (by rw [← q1]; exact HY.out) HYI.out (by omega)
              exact HJQ.out (by omega)
      · have hcf : cen = false := by rw [hce]; exact decide_eq_false hl
        have HLL := hidden hl
        clear hce hl
        subst hcf
        unfold pcv
        go_wp2_with (at_builtin; refine Rg.wpList_app rfl _ _ _ rfl rfl rfl HRUN.out ?_; clear HRUN)
        go_wp2
        go_roundg ((takeS S i r rs n).wt.toNat)
        case measure => rw [HGK.out]; exact HMS.out
        case rel =>
          have h1 := HJ.out.kw
          have h2 := HJ.out.ow
          have h3 : (takeS S i r rs n).wt = S.wt - (r.d.take n.toNat).length := rfl
          have h4 := HXL.out
          exact ⟨k + 1, _, F5, ms, _, by simp, rfl, ⟨HD7.out, HJ.out.wh.more HJ.out.cd.1 hn1 HX.out HR.out (by have := HLL.out; omega), HC7.out, HOB7.out, ⟨HJ.out.bb.1, HB7.out⟩, HJ.out.ml, by rw [h3]; omega, by rw [h3, List.length_append]; omega⟩⟩

theorem contract (H : Type) (enc : TypeId × Value → H) (W : World) (base : Nat) (args : Array Value) (ds gs : List (DataW H)) (before : List MemPlace)
    (hval : ∀ (j : Nat) t v, Try.f4.params[j]? = some t → args[j]? = some v → Value.okWide Try.prog W .any base t v)
    (hW : DataW.Whole enc Try.prog Try.f4.params.toList Rows.streamsWholeSpec.vars false W args.toList ds gs before)
    (hsz0 : (DataW.weightsEach Try.prog (Try.f4.params.toList ++ Rows.streamsWholeSpec.plain.varTypes Try.prog) (ds ++ gs)).all (· ≤ reachBytes) = true) :
    Calls Try.prog 4 args W fun e W' => ∃ v, e = .returned v ∧ Rows.streamsWholeSpec.post enc Try.prog Try.f4 false true false false W args v W' := by
  have hW' := hW
  obtain ⟨p, q, hA0, hV, rfl, hfz, hnd⟩ := hW
  have hA : DataW.TrodAll enc Try.prog W 0 (fun _ => true) true Try.f4.params.toList args.toList ds p := hA0
  have hsz := hsz0
  rw [Try.params4] at hA hval hsz
  obtain ⟨v0, vs0, d0, ds0, p0, q0, hargs, rfl, rfl, h0, r0⟩ := trodAll_cons hA
  obtain ⟨v1, vs1, d1, ds1, p1, q1, rfl, rfl, rfl, h1, r1⟩ := trodAll_cons r0
  obtain ⟨rfl, rfl, rfl⟩ := trodAll_nil r1
  obtain rfl : args = #[v0, v1] := by cases args; simp_all
  obtain ⟨rfl, rfl⟩ := trodVars_none hV
  obtain ⟨a0, len0, cap0, rfl⟩ := okWide_slice Try.underlying38 (hval 0 38 v0 rfl rfl)
  have k0 := h0
  have lt0 : ∀ x ∈ p0, x.block < W.heap.size := by obtain ⟨m, hm⟩ := k0; exact DataW.trod_lt m _ _ _ hm
  have sz0 : (d0.weights Try.prog 38).all (· ≤ reachBytes) = true := List.all_eq_true.2 fun m hm => List.all_eq_true.1 hsz m (DataW.weights_mem_each (j := 0) rfl rfl m hm)
  obtain ⟨z0, w0, s0⟩ : ∃ z0, Sq.Msgs W a0 len0 z0 ∧ True := by
    obtain ⟨fuel, hf⟩ := h0
    obtain ⟨vs, h1⟩ := Sq.msgs_arg hf sz0
    exact ⟨vs, h1, trivial⟩
  obtain ⟨a1, len1, cap1, rfl⟩ := okWide_slice Try.underlying39 (hval 1 39 v1 rfl rfl)
  have k1 := h1
  have lt1 : ∀ x ∈ p1, x.block < W.heap.size := by obtain ⟨m, hm⟩ := k1; exact DataW.trod_lt m _ _ _ hm
  have sz1 : (d1.weights Try.prog 39).all (· ≤ reachBytes) = true := List.all_eq_true.2 fun m hm => List.all_eq_true.1 hsz m (DataW.weights_mem_each (j := 1) rfl rfl m hm)
  obtain ⟨z1, w1, s1⟩ : ∃ z1, Sq.Ints W a1 len1 z1 ∧ True := by
    obtain ⟨fuel, hf⟩ := h1
    obtain ⟨vs, h1⟩ := Sq.ints_arg hf sz1
    exact ⟨vs, h1, trivial⟩
  clear hA0 hsz0 hsz
  refine (walk a0 len0 cap0 z0 a1 len1 cap1 z1 W w0 s0 w1 s1).mono fun e W' ⟨he, bel⟩ => ?_
  subst he
  exact ⟨_, rfl, _, _, _, [], _, [], hW', trodAll_mk1 (shut_bool Try.underlying4 _), (trodAll_cons_mk (Below.trod laidOut (by kernel_rfl) (of_decide_eq_true (by kernel_rfl)) k0 bel lt0) (trodAll_cons_mk (Below.trod laidOut (by kernel_rfl) (of_decide_eq_true (by kernel_rfl)) k1 bel lt1) trodAll_mk0)), rfl, bel.frame _, fun h => by cases h⟩

noncomputable def laidWorld (os : Os) : World :=
  World.holding Try.prog os ⟨#[], #[], []⟩
theorem laid_met (os : Os) : laidMet Try.prog Rows.streamsWholeRow.laid ((laidWorld os).forCall (fun _ _ => 0) ⟨#[], #[.slice none 0 0, .slice none 0 0], []⟩).memory :=
  laidMet_of_run' 8 (by kernel_rfl) (by kernel_rfl)
theorem reads (os : Os) {H : Type} (enc : TypeId × Value → H) : ∃ places, DataW.whole enc Try.prog ((laidWorld os).forCall (fun _ _ => 0) ⟨#[], #[.slice none 0 0, .slice none 0 0], []⟩).memory Try.f4.params.toList Rows.streamsWholeSpec.vars false #[Value.slice none 0 0, Value.slice none 0 0].toList 8 = some ([.nil, .nil], [], places) :=
  ⟨[], by kernel_rfl⟩

set_option maxRecDepth 100000 in
theorem lifted (os : Os) (started : os.Started) (H : Type) (enc : TypeId × Value → H) (F : Stop.Interp) :
    ReturnsInHanded {} Try.checked os 4 .any ((OpenSpec.ofChange Rows.streamsWholeSpec).preRow enc Try.prog Try.f4 Rows.streamsWholeRow.domain false Rows.streamsWholeRow.laid) (((OpenSpec.ofChange Rows.streamsWholeSpec).at F).post enc Try.prog Try.f4 false true false false) := by
  obtain ⟨places, hx⟩ := reads os enc
  refine returnsInHanded_of_row (C := Try.checked) (s := OpenSpec.ofChange Rows.streamsWholeSpec) own started (by kernel_rfl) Try.func4
    (witness_row_at (enc := enc) (C := Try.checked) false (laidWorld os) #[.slice none 0 0, .slice none 0 0] rfl (by kernel_rfl) (by kernel_rfl) (by kernel_rfl)
      (OpenSpec.preRow_of_cond 8 hx (by kernel_rfl) (fun k hk => by cases hk) (by kernel_rfl) (laid_met os))) ?_
  intro W base args ds gs before hval hW _ hcond hsz hL _ _
  exact contract H enc W base args ds gs before hval hW hsz

theorem said : Rows.StreamsWholeSaid :=
  OpenClaim.holds_of_cond 4 Try.f4 rfl rfl rfl rfl rfl rfl rfl ⟨rfl, rfl, rfl, rfl, rfl⟩ rfl rfl rfl rfl rfl (by kernel_rfl) Try.func4 (by kernel_rfl)
    (of_decide_eq_true (by kernel_rfl)) (by unfold Func.isWrapper; first | (rw [if_pos (by decide +kernel)]; kernel_rfl) | (rw [if_neg (by decide +kernel)]; exact ⟨rfl, rfl⟩))
    (fun os started H enc _ F => by rw [OpenClaim.pre_eq_preRow]; exact lifted os started H enc F)

/-- THE STATEMENT -/
theorem proved : Rows.StreamsWholeSaid := said
#print axioms proved
end Go.Proofs.Ytfgoamfoddkafaa.streamsWhole
