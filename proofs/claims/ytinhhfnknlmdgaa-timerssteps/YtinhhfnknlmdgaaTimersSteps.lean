/-
  What TimersSteps says of every row of timers and of times is true: one Due tells what Dues up to its time tell (rules 6 to 8). Conditions: none.
-/
import Derived.Test.YtinhhfnknlmdgaaRows
import Derived.WalkKit
import Derived.ProofKit
import Derived.OpenShut
import Derived.ShutString
import Derived.ChangeOld
import Derived.Below
import Derived.SizedLaws
import Derived.Deep.DeepHandedRow
import Derived.LaidLaws
import Derived.ChangeMaps5
import Derived.Test.YtinhhfnknlmdgaaTmX
import Derived.Test.YtinhhfnknlmdgaaAg
namespace Go.Proofs.Ytinhhfnknlmdgaa.timersSteps
open Go.ChangeShapes Go.WideShapes Go.ChangeAt Go.RowKit
open Go.ChangeMaps (open_string shut_string)
set_option linter.unusedVariables false

theorem own : ownKnob Try.prog.godebug = none := by kernel_rfl
theorem laidOut : laidOutB Try.prog = true := by kernel_rfl

open Ba (hidden Has Only In)
theorem ix_l {b off n cap : Nat} {q : Int} (h0 : 0 ≤ q) (h1 : q < (n : Int)) (w : World) : (Instr.indexAt 26 (.slice (some ⟨b, off, none⟩) n cap) (.int .i64 q)).run Try.prog w = .ok (.pointer (some ⟨b, off + q.toNat * 2, none⟩)) w := by
  go_simp
/-- worlds while both are set -/
structure BoA (W : World) (F0 : List Nat) (a b g off : Nat) (q id tm : Int) (S : List Tm.D) (k : Nat) (w' : World) : Prop where
  cl : w'.cell? ⟨g, off + q.toNat * 2, none⟩ = some (.int .i64 id) ∧ w'.cell? ⟨g, off + q.toNat * 2 + 1, none⟩ = some (.int .i64 tm)
  h0 : k = 0 → Tm.Tw W F0 w' a b S S 0 0 (.slice none 0 0) []
  h1 : k = 1 → Tm.Tw W F0 w' a b (Tm.setS id tm S) S 0 0 (.slice none 0 0) []
  h2 : k = 2 → Tm.Tw W F0 w' a b (Tm.setS id tm S) (Tm.setS id tm S) 0 0 (.slice none 0 0) []
set_option maxHeartbeats 4000000 in
set_option maxRecDepth 20000 in

theorem walk (a0 : Option Addr) (len0 cap0 : Nat) (z0 : List (Int × Int)) (a1 : Option Addr) (len1 cap1 : Nat) (z1 : List (Int)) (a2 : Int) (w : World) (w0 : Ag.Rows (fun q : Int × Int => [.int .i64 q.1, .int .i64 q.2]) (fun q => (Lit.int .i64 q.1).wf = true ∧ (Lit.int .i64 q.2).wf = true) 2 w a0 len0 z0) (s0 : len0 ≤ cap0 ∧ cap0 * Try.prog.bytesOf 43 ≤ 140737488351232 ∧ (a0 = none → len0 = 0 ∧ cap0 = 0)) (w1 : Ag.Rows (fun n : Int => [.int .i64 n]) (fun n => (Lit.int .i64 n).wf = true) 1 w a1 len1 z1) (s1 : len1 ≤ cap1 ∧ cap1 * Try.prog.bytesOf 3 ≤ 140737488351232 ∧ (a1 = none → len1 = 0 ∧ cap1 = 0)) (w2 : (Lit.int .i64 a2).wf = true) :
    Calls Try.prog 5 #[.slice a0 len0 cap0, .slice a1 len1 cap1, .int .i64 a2] w fun e w' => e = .returned (.bool true) ∧ Below w.heap.size w w' := by
  have AW := hidden Tm.awake
  have HN := hidden Tm.new
  have HZ0 := hidden w0
  have HZ1 := hidden w1
  have hlen0 : len0 ≤ 140737488355328 := w0.2.2.1
  have hlen1 : len1 ≤ 140737488355328 := w1.2.2.1
  clear w0 s0 w1 s1
  have E1 : Hid (∀ (args : Array Value) (w : World), (callFunc 10 args).run Try.prog w = .ok (.enter 10 args) w) := enters_of Try.func10 (by kernel_rfl) rfl
  go_enter Try.func5, Try.ntmps5
  go_wp2_with fail
  refine Calls.mono (HN.out _) ?_
  rintro e w1 ⟨a, F, rfl, hT, hF, hB⟩
  have HT := hidden hT
  have HF := hidden hF
  have HB := hidden hB
  clear hT hF hB
  go_wp2_with fail
  refine Calls.mono (HN.out _) ?_
  rintro e w2 ⟨b, G, rfl, hT, hF, hB⟩
  have HT2 := hidden hT
  have HF2 := hidden hF
  have HB2 := hidden hB
  clear hT hF hB HN
  go_wp2_with fail
  refine Calls.mono (AW.out _) ?_
  rintro e W ⟨rfl, hB3⟩
  obtain ⟨g1, g2, g3⟩ := Tm.two_new_tables HT.out HF.out HB.out HT2.out HF2.out HB2.out hB3
  obtain ⟨F0, hF0⟩ : ∃ F0, F0 = F ++ G := ⟨_, rfl⟩
  rw [← hF0] at g1 g2
  have HP := hidden g1
  have HBL : Hid (∀ {S R X : List Tm.D} {l r : Int} {gv : Value} (x : World), Tm.Tw W F0 x a b S R l r gv X → Below w.heap.size w x) := fun x hx => hx.below g2 g3
  clear g1 g2 g3 hF0 HT HF HB HT2 HF2 HB2 hB3 AW
  go_wp2_with fail
  go_loopw [9] (fun i wr => ∃ (q : Int) (S : List Tm.D), 0 ≤ q ∧ q ≤ (len0 : Int) ∧ i = .int .i64 q ∧ Hid (Tm.Tw W F0 wr a b S S 0 0 (.slice none 0 0) [])) (fun i _ => len0 - (intOf i).toNat)
  case atStart => exact ⟨0, _, by omega, by omega, rfl, HP.out⟩
  case round =>
    clear HP
    obtain ⟨q, S, j1, j2, rfl, HQ⟩ := hrel
    by_cases hq : q < (len0 : Int)
    · obtain ⟨z, hz⟩ : ∃ z, z0[q.toNat]? = some z := ⟨_, List.getElem?_eq_getElem (by have := HZ0.out.1; omega)⟩
      obtain ⟨id, tm⟩ := z
      obtain ⟨g, off, rfl, hbw, hc⟩ : ∃ b off, a0 = some ⟨b, off, none⟩ ∧ b < w.heap.size ∧ (∀ j z, z0[j]? = some z → ∀ c u, ((fun q : Int × Int => [Value.int .i64 q.1, .int .i64 q.2]) z)[c]? = some u → w.cell? ⟨b, off + j * 2 + c, none⟩ = some u) := by
        rcases HZ0.out.2.2.2 with h4 | h4
        · omega
        · exact h4
      have HCL : Hid (∀ {S R X : List Tm.D} {l r : Int} {gv : Value} (x : World), Tm.Tw W F0 x a b S R l r gv X → x.cell? ⟨g, off + q.toNat * 2, none⟩ = some (.int .i64 id) ∧ x.cell? ⟨g, off + q.toNat * 2 + 1, none⟩ = some (.int .i64 tm)) := fun x hx => ⟨((HBL.out _ hx).cell (p := ⟨g, off + q.toNat * 2, none⟩) hbw).trans (hc _ _ hz 0 _ rfl), ((HBL.out _ hx).cell (p := ⟨g, off + q.toNat * 2 + 1, none⟩) hbw).trans (hc _ _ hz 1 _ rfl)⟩
      have IXL : Hid (∀ x : World, (Instr.indexAt 26 (.slice (some ⟨g, off, none⟩) len0 cap0) (.int .i64 q)).run Try.prog x = .ok (.pointer (some ⟨g, off + q.toNat * 2, none⟩)) x) := fun x => ix_l j1 hq x
      clear hz hc hbw
      go_upto_region 7 with fail
      refine Ord.wp_region_ex0 (X := Unit) (by kernel_rfl) 135 (fun x => [(some 36, .pointer (some ⟨a, 0, none⟩)), (some 37, .slice (some ⟨g, off, none⟩) len0 cap0), (some 38, .int .i64 q), (some 39, .pointer (some ⟨g, off + q.toNat * 2, none⟩)), (some 40, .pointer (some ⟨g, off + q.toNat * 2, none⟩)), (some 41, .int .i64 id), (some 42, .slice (some ⟨g, off, none⟩) len0 cap0), (some 43, .int .i64 q), (some 44, .pointer (some ⟨g, off + q.toNat * 2, none⟩)), (some 45, .pointer (some ⟨g, off + q.toNat * 2 + 1, none⟩)), (some 46, .int .i64 tm), (some 47, .int .i64 (Tm.setE id tm)), (some 48, .pointer (some ⟨b, 0, none⟩)), (some 49, .slice (some ⟨g, off, none⟩) len0 cap0), (some 50, .int .i64 q), (some 51, .pointer (some ⟨g, off + q.toNat * 2, none⟩)), (some 52, .pointer (some ⟨g, off + q.toNat * 2, none⟩)), (some 53, .int .i64 id), (some 54, .slice (some ⟨g, off, none⟩) len0 cap0), (some 55, .int .i64 q), (some 56, .pointer (some ⟨g, off + q.toNat * 2, none⟩)), (some 57, .pointer (some ⟨g, off + q.toNat * 2 + 1, none⟩)), (some 58, .int .i64 tm), (some 59, .int .i64 (Tm.setE id tm)), (some 60, .bool false)]) [some 36, some 37, some 38, some 39, some 40, some 41, some 42, some 43, some 44, some 45, some 46, some 47, some 48, some 49, some 50, some 51, some 52, some 53, some 54, some 55, some 56, some 57, some 58, some 59, some 60] rfl (fun listed hsz hr => Ord.all_listedC (rank := [0, 1, 2, 3, 4, 5, 6, 7, 8, 9, 10, 11, 12, 13, 14, 15, 16, 17, 18, 19, 20, 21, 22, 23, 24]) (by kernel_rfl) hsz hr) (by rfl) (fun _ => rfl) (by kernel_rfl) (Rg.StM [11, 23] (fun k _ w' => BoA W F0 a b g off q id tm S k w')) (fun _ _ _ _ hL h => h.ext (n := 25) (by decide) hL) ?_ ?_ () ?_
      case refine_1 =>
        intro x Lq iq oq ac w' ho hi hcl hdep hF hW
        have f1 : ac.tmps.size = 135 := hF.1
        match iq, ho, hi, hdep with
        | 0, ho, hi, hdep =>
          cases ho
          have da0 : ac.eval (.tmp 7) = .pointer (some ⟨a, 0, none⟩) := hF.old 7 rfl
          exact Ord.ex_value x rfl rfl (Rg.mv da0 rfl) rfl (hW.keep (by decide))
        | 1, ho, hi, hdep =>
          cases ho
          have da0 : ac.eval (.tmp 0) = .slice (some ⟨g, off, none⟩) len0 cap0 := hF.old 0 rfl
          exact Ord.ex_value x rfl rfl (Rg.mv da0 rfl) rfl (hW.keep (by decide))
        | 2, ho, hi, hdep =>
          cases ho
          have da0 : ac.eval (.tmp 9) = .int .i64 q := hF.old 9 rfl
          exact Ord.ex_value x rfl rfl (Rg.mv da0 rfl) rfl (hW.keep (by decide))
        | 3, ho, hi, hdep =>
          cases ho
          have da0 : ac.eval (.tmp 37) = .slice (some ⟨g, off, none⟩) len0 cap0 := hF.2.2.2 1 37 _ rfl (hdep ⟨1, .data⟩ (by simp) rfl)
          have da1 : ac.eval (.tmp 38) = .int .i64 q := hF.2.2.2 2 38 _ rfl (hdep ⟨2, .data⟩ (by simp) rfl)
          exact Ord.ex_value x rfl rfl (Rg.ix da0 da1 rfl (IXL.out _)) rfl (hW.keep (by decide))
        | 4, ho, hi, hdep =>
          cases ho
          have da0 : ac.eval (.tmp 39) = .pointer (some ⟨g, off + q.toNat * 2, none⟩) := hF.2.2.2 3 39 _ rfl (hdep ⟨3, .data⟩ (by simp) rfl)
          exact Ord.ex_value x rfl rfl (Rg.fa da0 rfl (by simp [go_sem])) rfl (hW.keep (by decide))
        | 5, ho, hi, hdep =>
          cases ho
          have da0 : ac.eval (.tmp 40) = .pointer (some ⟨g, off + q.toNat * 2, none⟩) := hF.2.2.2 4 40 _ rfl (hdep ⟨4, .data⟩ (by simp) rfl)
          obtain ⟨kq, hlo, hhi, hA⟩ := hW.range 0 0 (.inl rfl) (.inr ⟨11, rfl, (Rg.no_of (fun h => hcl 11 _ rfl (h) ⟨5, .data⟩ (by simp) rfl) hi)⟩)
          exact Ord.ex_value x rfl rfl (Rg.load da0 rfl (by simp [go_sem, hA.cl.1])) rfl (hW.keep (by decide))
        | 6, ho, hi, hdep =>
          cases ho
          have da0 : ac.eval (.tmp 0) = .slice (some ⟨g, off, none⟩) len0 cap0 := hF.old 0 rfl
          exact Ord.ex_value x rfl rfl (Rg.mv da0 rfl) rfl (hW.keep (by decide))
        | 7, ho, hi, hdep =>
          cases ho
          have da0 : ac.eval (.tmp 9) = .int .i64 q := hF.old 9 rfl
          exact Ord.ex_value x rfl rfl (Rg.mv da0 rfl) rfl (hW.keep (by decide))
        | 8, ho, hi, hdep =>
          cases ho
          have da0 : ac.eval (.tmp 42) = .slice (some ⟨g, off, none⟩) len0 cap0 := hF.2.2.2 6 42 _ rfl (hdep ⟨6, .data⟩ (by simp) rfl)
          have da1 : ac.eval (.tmp 43) = .int .i64 q := hF.2.2.2 7 43 _ rfl (hdep ⟨7, .data⟩ (by simp) rfl)
          exact Ord.ex_value x rfl rfl (Rg.ix da0 da1 rfl (IXL.out _)) rfl (hW.keep (by decide))
        | 9, ho, hi, hdep =>
          cases ho
          have da0 : ac.eval (.tmp 44) = .pointer (some ⟨g, off + q.toNat * 2, none⟩) := hF.2.2.2 8 44 _ rfl (hdep ⟨8, .data⟩ (by simp) rfl)
          exact Ord.ex_value x rfl rfl (Rg.fa da0 rfl (by simp [go_sem])) rfl (hW.keep (by decide))
        | 10, ho, hi, hdep =>
          cases ho
          have da0 : ac.eval (.tmp 45) = .pointer (some ⟨g, off + q.toNat * 2 + 1, none⟩) := hF.2.2.2 9 45 _ rfl (hdep ⟨9, .data⟩ (by simp) rfl)
          obtain ⟨kq, hlo, hhi, hA⟩ := hW.range 0 0 (.inl rfl) (.inr ⟨11, rfl, (Rg.no_of (fun h => hcl 11 _ rfl (h) ⟨10, .data⟩ (by simp) rfl) hi)⟩)
          exact Ord.ex_value x rfl rfl (Rg.load da0 rfl (by simp [go_sem, hA.cl.2])) rfl (hW.keep (by decide))
        | 11, ho, hi, hdep =>
          cases ho
          have da0 : ac.eval (.tmp 36) = .pointer (some ⟨a, 0, none⟩) := hF.2.2.2 0 36 _ rfl (hdep ⟨0, .data⟩ (by simp) rfl)
          have da1 : ac.eval (.tmp 41) = .int .i64 id := hF.2.2.2 5 41 _ rfl (hdep ⟨5, .data⟩ (by simp) rfl)
          have da2 : ac.eval (.tmp 46) = .int .i64 tm := hF.2.2.2 10 46 _ rfl (hdep ⟨10, .data⟩ (by simp) rfl)
          have hA := hW.at (k := 0) rfl hi (.inl rfl)
          exact Rg.ex_call x rfl rfl (Rg.enter (args := #[.pointer (some ⟨a, 0, none⟩), .int .i64 id, .int .i64 tm]) rfl rfl (by simp [da0, da1, da2]) E1.out) (Calls.mono ((hA.h0 rfl).seta id tm) (by rintro e w2 ⟨rfl, hP⟩; exact ⟨rfl, hW.next (k := 0) rfl (by decide) hi (.inl rfl) ⟨HCL.out _ hP, fun e => absurd e (by decide), fun _ => hP, fun e => absurd e (by decide)⟩⟩))
        | 12, ho, hi, hdep =>
          cases ho
          have da0 : ac.eval (.tmp 8) = .pointer (some ⟨b, 0, none⟩) := hF.old 8 rfl
          exact Ord.ex_value x rfl rfl (Rg.mv da0 rfl) rfl (hW.keep (by decide))
        | 13, ho, hi, hdep =>
          cases ho
          have da0 : ac.eval (.tmp 0) = .slice (some ⟨g, off, none⟩) len0 cap0 := hF.old 0 rfl
          exact Ord.ex_value x rfl rfl (Rg.mv da0 rfl) rfl (hW.keep (by decide))
        | 14, ho, hi, hdep =>
          cases ho
          have da0 : ac.eval (.tmp 9) = .int .i64 q := hF.old 9 rfl
          exact Ord.ex_value x rfl rfl (Rg.mv da0 rfl) rfl (hW.keep (by decide))
        | 15, ho, hi, hdep =>
          cases ho
          have da0 : ac.eval (.tmp 49) = .slice (some ⟨g, off, none⟩) len0 cap0 := hF.2.2.2 13 49 _ rfl (hdep ⟨13, .data⟩ (by simp) rfl)
          have da1 : ac.eval (.tmp 50) = .int .i64 q := hF.2.2.2 14 50 _ rfl (hdep ⟨14, .data⟩ (by simp) rfl)
          exact Ord.ex_value x rfl rfl (Rg.ix da0 da1 rfl (IXL.out _)) rfl (hW.keep (by decide))
        | 16, ho, hi, hdep =>
          cases ho
          have da0 : ac.eval (.tmp 51) = .pointer (some ⟨g, off + q.toNat * 2, none⟩) := hF.2.2.2 15 51 _ rfl (hdep ⟨15, .data⟩ (by simp) rfl)
          exact Ord.ex_value x rfl rfl (Rg.fa da0 rfl (by simp [go_sem])) rfl (hW.keep (by decide))
        | 17, ho, hi, hdep =>
          cases ho
          have da0 : ac.eval (.tmp 52) = .pointer (some ⟨g, off + q.toNat * 2, none⟩) := hF.2.2.2 16 52 _ rfl (hdep ⟨16, .data⟩ (by simp) rfl)
          obtain ⟨kq, hlo, hhi, hA⟩ := hW.range 0 1 (.inl rfl) (.inr ⟨23, rfl, (Rg.no_of (fun h => hcl 23 _ rfl (h) ⟨17, .data⟩ (by simp) rfl) hi)⟩)
          exact Ord.ex_value x rfl rfl (Rg.load da0 rfl (by simp [go_sem, hA.cl.1])) rfl (hW.keep (by decide))
        | 18, ho, hi, hdep =>
          cases ho
          have da0 : ac.eval (.tmp 0) = .slice (some ⟨g, off, none⟩) len0 cap0 := hF.old 0 rfl
          exact Ord.ex_value x rfl rfl (Rg.mv da0 rfl) rfl (hW.keep (by decide))
        | 19, ho, hi, hdep =>
          cases ho
          have da0 : ac.eval (.tmp 9) = .int .i64 q := hF.old 9 rfl
          exact Ord.ex_value x rfl rfl (Rg.mv da0 rfl) rfl (hW.keep (by decide))
        | 20, ho, hi, hdep =>
          cases ho
          have da0 : ac.eval (.tmp 54) = .slice (some ⟨g, off, none⟩) len0 cap0 := hF.2.2.2 18 54 _ rfl (hdep ⟨18, .data⟩ (by simp) rfl)
          have da1 : ac.eval (.tmp 55) = .int .i64 q := hF.2.2.2 19 55 _ rfl (hdep ⟨19, .data⟩ (by simp) rfl)
          exact Ord.ex_value x rfl rfl (Rg.ix da0 da1 rfl (IXL.out _)) rfl (hW.keep (by decide))
        | 21, ho, hi, hdep =>
          cases ho
          have da0 : ac.eval (.tmp 56) = .pointer (some ⟨g, off + q.toNat * 2, none⟩) := hF.2.2.2 20 56 _ rfl (hdep ⟨20, .data⟩ (by simp) rfl)
          exact Ord.ex_value x rfl rfl (Rg.fa da0 rfl (by simp [go_sem])) rfl (hW.keep (by decide))
        | 22, ho, hi, hdep =>
          cases ho
          have da0 : ac.eval (.tmp 57) = .pointer (some ⟨g, off + q.toNat * 2 + 1, none⟩) := hF.2.2.2 21 57 _ rfl (hdep ⟨21, .data⟩ (by simp) rfl)
          obtain ⟨kq, hlo, hhi, hA⟩ := hW.range 0 1 (.inl rfl) (.inr ⟨23, rfl, (Rg.no_of (fun h => hcl 23 _ rfl (h) ⟨22, .data⟩ (by simp) rfl) hi)⟩)
          exact Ord.ex_value x rfl rfl (Rg.load da0 rfl (by simp [go_sem, hA.cl.2])) rfl (hW.keep (by decide))
        | 23, ho, hi, hdep =>
          cases ho
          have da0 : ac.eval (.tmp 48) = .pointer (some ⟨b, 0, none⟩) := hF.2.2.2 12 48 _ rfl (hdep ⟨12, .data⟩ (by simp) rfl)
          have da1 : ac.eval (.tmp 53) = .int .i64 id := hF.2.2.2 17 53 _ rfl (hdep ⟨17, .data⟩ (by simp) rfl)
          have da2 : ac.eval (.tmp 58) = .int .i64 tm := hF.2.2.2 22 58 _ rfl (hdep ⟨22, .data⟩ (by simp) rfl)
          have hA := hW.at (k := 1) rfl hi (.inr ⟨11, rfl, (hdep ⟨11, .chain⟩ (by simp) rfl)⟩)
          exact Rg.ex_call x rfl rfl (Rg.enter (args := #[.pointer (some ⟨b, 0, none⟩), .int .i64 id, .int .i64 tm]) rfl rfl (by simp [da0, da1, da2]) E1.out) (Calls.mono ((hA.h1 rfl).setb id tm) (by rintro e w2 ⟨rfl, hP⟩; exact ⟨rfl, hW.next (k := 1) rfl (by decide) hi (.inr ⟨11, rfl, (hdep ⟨11, .chain⟩ (by simp) rfl)⟩) ⟨HCL.out _ hP, fun e => absurd e (by decide), fun e => absurd e (by decide), fun _ => hP⟩⟩))
        | 24, ho, hi, hdep =>
          cases ho
          have da0 : ac.eval (.tmp 47) = .int .i64 (Tm.setE id tm) := hF.2.2.2 11 47 _ rfl (hdep ⟨11, .data⟩ (by simp) rfl)
          have da1 : ac.eval (.tmp 59) = .int .i64 (Tm.setE id tm) := hF.2.2.2 23 59 _ rfl (hdep ⟨23, .data⟩ (by simp) rfl)
          exact Ord.ex_value x rfl rfl (Rg.bin da0 da1 rfl (by simp [go_sem])) rfl (hW.keep (by decide))
      case refine_3 => exact Rg.StM.first ⟨HCL.out _ (HQ.out.later (Below.refl _ wr).drew), fun _ => HQ.out.later (Below.refl _ wr).drew, fun e => absurd e (by decide), fun e => absurd e (by decide)⟩
      case refine_2 =>
        intro xx x2 hW
        have HP2 := hidden (hW.last.h2 rfl)
        clear hW
        simp only [Ord.puts, Ord.prs]
        go_simp
        go_wp2
        go_roundw
        case rel => exact ⟨_, _, by omega, by omega, rfl, HP2.out⟩
        case measure => simp [intOf]; omega
    · go_wp2_with fail
      clear hq j1 j2
      obtain ⟨hsd, hSk, hSn, hSl⟩ := HQ.out.ok
      obtain ⟨N, hN⟩ : ∃ N, N = S.length := ⟨_, rfl⟩
      have HN := hidden hN
      have HSL := hidden hSl
      clear hsd hSk hSn hSl hN
      go_loopw [10, 11] (fun gv i wr => ∃ (q : Int) (X Sa : List Tm.D) (l : Int), 0 ≤ q ∧ q ≤ (len1 : Int) ∧ i = .int .i64 q ∧ Hid (Tm.Tw W F0 wr a b Sa S l 0 gv X) ∧ Hid (Tm.So a2 S X Sa l)) (fun _ i _ => len1 - (intOf i).toNat)
      case atStart => exact ⟨0, [], S, 0, by omega, by omega, rfl, HQ.out, ⟨rfl, by simp, .inl rfl⟩⟩
      case round =>
        rename_i gv _ _
        clear HQ
        obtain ⟨q, X, Sa, l, j1, j2, rfl, HQ, HS⟩ := hrel
        by_cases hq : q < (len1 : Int)
        · obtain ⟨z, hz⟩ : ∃ z, z1[q.toNat]? = some z := ⟨_, List.getElem?_eq_getElem (by have := HZ1.out.1; omega)⟩
          obtain ⟨g, off, rfl, hbw, hc⟩ : ∃ b off, a1 = some ⟨b, off, none⟩ ∧ b < w.heap.size ∧ (∀ j z, z1[j]? = some z → ∀ c u, ((fun n : Int => [Value.int .i64 n]) z)[c]? = some u → w.cell? ⟨b, off + j * 1 + c, none⟩ = some u) := by
            rcases HZ1.out.2.2.2 with h4 | h4
            · omega
            · exact h4
          have cc : wr.cell? ⟨g, off + q.toNat, none⟩ = some (.int .i64 z) := by
            have := hc _ _ hz 0 _ rfl
            rw [Nat.mul_one, Nat.add_zero] at this
            exact ((HBL.out _ HQ.out).cell (p := ⟨g, off + q.toNat, none⟩) hbw).trans this
          clear hz hc hbw
          by_cases hle : z ≤ a2
          · go_wp2_with fail
            refine Calls.mono (HQ.out.duea z) ?_
            rintro e x2 ⟨tv, rfl, hP2⟩
            have HS9 := hidden (HS.out.next hle)
            have hl2 : X.length + (Tm.dT z l Sa).length ≤ 1000000 := by
              have := HS9.out.len.1
              rw [List.length_append] at this
              have := HSL.out
              omega
            obtain ⟨v', x3, hr, hP3⟩ := hP2.app hl2
            have HRA := hidden hr
            have HQ9 := hidden hP3
            generalize Tm.dueE z l = de
            clear hP2 hl2 hr hP3 cc
            go_wp2_with (at_builtin; refine Rg.wpList_app rfl _ _ 26 rfl rfl rfl HRA.out ?_; clear HRA)
            go_roundw
            case rel => exact ⟨_, _, _, _, by omega, by omega, rfl, HQ9.out, HS9.out⟩
            case measure => simp [intOf]; omega
          · go_wp2
            go_roundw
            case rel => exact ⟨_, _, _, _, by omega, by omega, rfl, HQ.out, HS.out⟩
            case measure => simp [intOf]; omega
        · go_wp2_with fail
          refine Calls.mono (HQ.out.duea a2) ?_
          rintro e x2 ⟨tv, rfl, hP2⟩
          have HS9 := hidden (HS.out.next (Int.le_refl a2))
          have hl2 : X.length + (Tm.dT a2 l Sa).length ≤ 1000000 := by
            have := HS9.out.len.1
            rw [List.length_append] at this
            have := HSL.out
            omega
          obtain ⟨ta, tcap, htv⟩ := hP2.len
          obtain ⟨v', x3, hr, hP3⟩ := hP2.app hl2
          have HRA := hidden hr
          have HQ9 := hidden hP3
          obtain ⟨lt, hlt⟩ : ∃ lt, lt = (Tm.dT a2 l Sa).length := ⟨_, rfl⟩
          have HLT := hidden hlt
          rw [← hlt] at htv
          subst htv
          obtain ⟨de, hde⟩ : ∃ de, de = Tm.dueE a2 l := ⟨_, rfl⟩
          rw [← hde]
          have HDE := hidden hde
          clear hP2 hl2 hr hP3 hq j1 j2 hlt hde HQ
          go_wp2_with (at_builtin; refine Rg.wpList_app rfl _ _ 26 rfl rfl rfl HRA.out ?_; clear HRA)
          refine Calls.mono (HQ9.out.dueb a2) ?_
          rintro e x4 ⟨wv, rfl, hP4⟩
          obtain ⟨wa, wcap, hwv⟩ := hP4.len
          obtain ⟨lw, hlw⟩ : ∃ lw, lw = (Tm.dT a2 0 S).length := ⟨_, rfl⟩
          rw [← hlw] at hwv
          subst hwv
          have HLW := hidden hlw
          have HP4 := hidden hP4
          have RT := hidden (Tm.rTime a2)
          obtain ⟨df, hdf⟩ : ∃ df, df = Tm.dueE a2 0 := ⟨_, rfl⟩
          rw [← hdf]
          have HDF := hidden hdf
          clear hP4 hlw hdf
          go_wp2_with fail
          refine Calls.mono (RT.out _) ?_
          rintro e x5 ⟨rfl, rfl⟩
          clear RT
          rcases Bool.eq_false_or_eq_true (Tm.okTime a2) with ht | ht
          · obtain ⟨q1, q2, q3, q4⟩ := HS.out.last ht
            obtain rfl : de = 0 := HDE.out.trans q1
            obtain rfl : df = 0 := HDF.out.trans q2
            have hl9 : (Tm.dT a2 0 S).length ≤ 1000000 := by
              rw [← q3]
              have := HS9.out.len.1
              have := HSL.out
              omega
            have hp := HP4.out
            rw [q3, q4] at hp
            obtain ⟨r1, r2⟩ := hp.rows hl9 hl9
            have HR := hidden (Tm.rsame _ _ _ _ r1 r2)
            have HP5 := hidden hp.tw
            clear q1 q2 q3 q4 hp r1 r2 HDE HDF HS9 HLT HLW HP4 HS hl9
            rw [ht]
            go_wp2_with fail
            refine Calls.mono HR.out ?_
            rintro e x6 ⟨rfl, hB6⟩
            have HP6 := hidden (HP5.out.later hB6)
            clear hB6 HR HP5
            go_wp2_with fail
            refine Calls.mono HP6.out.alla ?_
            rintro e x7 ⟨va, rfl, hra, hB7⟩
            have HRA := hidden hra
            have HP7 := hidden (HP6.out.later hB7)
            clear hB7 HP6 hra
            go_wp2_with fail
            refine Calls.mono HP7.out.allb ?_
            rintro e x8 ⟨vb, rfl, hrb, hB8⟩
            have HR := hidden (Tm.rsame _ _ _ _ (HRA.out.later hB8) hrb)
            have HP8 := hidden (HP7.out.later hB8)
            clear hB8 HP7 hrb HRA
            go_wp2_with fail
            refine Calls.mono HR.out ?_
            rintro e x9 ⟨rfl, hB9⟩
            have HP9 := hidden (HP8.out.later hB9)
            clear hB9 HP8 HR
            go_wp2
            go_ret
            exact ⟨rfl, HBL.out _ HP9.out⟩
          · obtain ⟨q1, q2⟩ := Tm.bad_last (l := l) ht
            obtain ⟨q3, q4⟩ := Tm.bad_last (l := 0) ht
            obtain rfl : de = 80 := HDE.out.trans q1
            obtain rfl : df = 80 := HDF.out.trans q3
            obtain rfl : lt = 0 := by rw [HLT.out, q2]; rfl
            obtain rfl : lw = 0 := by rw [HLW.out, q4]; rfl
            have HP5 := hidden HP4.out.tw
            clear q1 q2 q3 q4 HDE HDF HLT HLW HP4
            rw [ht]
            go_wp2
            go_ret
            exact ⟨rfl, HBL.out _ HP5.out⟩

theorem contract (H : Type) (enc : TypeId × Value → H) (W : World) (base : Nat) (args : Array Value) (ds gs : List (DataW H)) (before : List MemPlace)
    (hval : ∀ (j : Nat) t v, Try.f5.params[j]? = some t → args[j]? = some v → Value.okWide Try.prog W .any base t v)
    (hW : DataW.Whole enc Try.prog Try.f5.params.toList Rows.timersStepsSpec.vars false W args.toList ds gs before)
    (hsz0 : (DataW.weightsEach Try.prog (Try.f5.params.toList ++ Rows.timersStepsSpec.plain.varTypes Try.prog) (ds ++ gs)).all (· ≤ reachBytes) = true) :
    Calls Try.prog 5 args W fun e W' => ∃ v, e = .returned v ∧ Rows.timersStepsSpec.post enc Try.prog Try.f5 false true false false W args v W' := by
  have hW' := hW
  obtain ⟨p, q, hA0, hV, rfl, hfz, hnd⟩ := hW
  have hA : DataW.TrodAll enc Try.prog W 0 (fun _ => true) true Try.f5.params.toList args.toList ds p := hA0
  have hsz := hsz0
  rw [Try.params5] at hA hval hsz
  obtain ⟨v0, vs0, d0, ds0, p0, q0, hargs, rfl, rfl, h0, r0⟩ := trodAll_cons hA
  obtain ⟨v1, vs1, d1, ds1, p1, q1, rfl, rfl, rfl, h1, r1⟩ := trodAll_cons r0
  obtain ⟨v2, vs2, d2, ds2, p2, q2, rfl, rfl, rfl, h2, r2⟩ := trodAll_cons r1
  obtain ⟨rfl, rfl, rfl⟩ := trodAll_nil r2
  obtain rfl : args = #[v0, v1, v2] := by cases args; simp_all
  obtain ⟨rfl, rfl⟩ := trodVars_none hV
  obtain ⟨a0, len0, cap0, rfl⟩ := okWide_slice Try.underlying26 (hval 0 26 v0 rfl rfl)
  have k0 := h0
  have lt0 : ∀ x ∈ p0, x.block < W.heap.size := by obtain ⟨m, hm⟩ := k0; exact DataW.trod_lt m _ _ _ hm
  have sz0 : (d0.weights Try.prog 26).all (· ≤ reachBytes) = true := List.all_eq_true.2 fun m hm => List.all_eq_true.1 hsz m (DataW.weights_mem_each (j := 0) rfl rfl m hm)
  obtain ⟨z0, w0, s0⟩ : ∃ zs, Ag.Rows (fun q : Int × Int => [.int .i64 q.1, .int .i64 q.2]) (fun q => (Lit.int .i64 q.1).wf = true ∧ (Lit.int .i64 q.2).wf = true) 2 W a0 len0 zs ∧ len0 ≤ cap0 ∧ cap0 * Try.prog.bytesOf 43 ≤ 140737488351232 ∧ (a0 = none → len0 = 0 ∧ cap0 = 0) := by
    obtain ⟨fuel, hf⟩ := h0
    exact Ag.rows_arg (Ag.kind2 Try.underlying43 (by kernel_rfl) rfl rfl Try.underlying3 Try.underlying3 (by kernel_rfl) (by kernel_rfl)) Try.underlying26 (Nat.le_of_ble_eq_true (by kernel_rfl)) hf sz0
  obtain ⟨a1, len1, cap1, rfl⟩ := okWide_slice Try.underlying34 (hval 1 34 v1 rfl rfl)
  have k1 := h1
  have lt1 : ∀ x ∈ p1, x.block < W.heap.size := by obtain ⟨m, hm⟩ := k1; exact DataW.trod_lt m _ _ _ hm
  have sz1 : (d1.weights Try.prog 34).all (· ≤ reachBytes) = true := List.all_eq_true.2 fun m hm => List.all_eq_true.1 hsz m (DataW.weights_mem_each (j := 1) rfl rfl m hm)
  obtain ⟨z1, w1, s1⟩ : ∃ zs, Ag.Rows (fun n : Int => [.int .i64 n]) (fun n => (Lit.int .i64 n).wf = true) 1 W a1 len1 zs ∧ len1 ≤ cap1 ∧ cap1 * Try.prog.bytesOf 3 ≤ 140737488351232 ∧ (a1 = none → len1 = 0 ∧ cap1 = 0) := by
    obtain ⟨fuel, hf⟩ := h1
    exact Ag.rows_arg (Ag.kind_int Try.underlying3 (by kernel_rfl)) Try.underlying34 (Nat.le_of_ble_eq_true (by kernel_rfl)) hf sz1
  obtain ⟨a2, rfl, rfl, rfl, w2⟩ := open_int Try.underlying3 (hval 2 3 v2 rfl rfl) h2
  clear hA0 hsz0 hsz
  refine (walk a0 len0 cap0 z0 a1 len1 cap1 z1 a2 W w0 s0 w1 s1 w2).mono fun e W' ⟨he, bel⟩ => ?_
  subst he
  exact ⟨_, rfl, _, _, _, [], _, [], hW', trodAll_mk1 (shut_bool Try.underlying4 _), (trodAll_cons_mk (Below.trod laidOut (by kernel_rfl) (of_decide_eq_true (by kernel_rfl)) k0 bel lt0) (trodAll_cons_mk (Below.trod laidOut (by kernel_rfl) (of_decide_eq_true (by kernel_rfl)) k1 bel lt1) (trodAll_cons_mk (shut_int Try.underlying3 w2) trodAll_mk0))), rfl, bel.frame _, fun h => by cases h⟩

noncomputable def laidWorld (os : Os) : World :=
  World.holding Try.prog os ⟨#[], #[], []⟩
theorem laid_met (os : Os) : laidMet Try.prog Rows.timersStepsRow.laid ((laidWorld os).forCall (fun _ _ => 0) ⟨#[], #[.slice none 0 0, .slice none 0 0, .int .i64 0], []⟩).memory :=
  laidMet_of_run' 8 (by kernel_rfl) (by kernel_rfl)
theorem reads (os : Os) {H : Type} (enc : TypeId × Value → H) : ∃ places, DataW.whole enc Try.prog ((laidWorld os).forCall (fun _ _ => 0) ⟨#[], #[.slice none 0 0, .slice none 0 0, .int .i64 0], []⟩).memory Try.f5.params.toList Rows.timersStepsSpec.vars false #[Value.slice none 0 0, Value.slice none 0 0, Value.int .i64 0].toList 8 = some ([.nil, .nil, .lit (.int .i64 0)], [], places) :=
  ⟨[], by kernel_rfl⟩

set_option maxRecDepth 100000 in
theorem lifted (os : Os) (started : os.Started) (H : Type) (enc : TypeId × Value → H) (F : Stop.Interp) :
    ReturnsInHanded {} Try.checked os 5 .any ((OpenSpec.ofChange Rows.timersStepsSpec).preRow enc Try.prog Try.f5 Rows.timersStepsRow.domain false Rows.timersStepsRow.laid) (((OpenSpec.ofChange Rows.timersStepsSpec).at F).post enc Try.prog Try.f5 false true false false) := by
  obtain ⟨places, hx⟩ := reads os enc
  refine returnsInHanded_of_row (C := Try.checked) (s := OpenSpec.ofChange Rows.timersStepsSpec) own started (by kernel_rfl) Try.func5
    (witness_row_at (enc := enc) (C := Try.checked) false (laidWorld os) #[.slice none 0 0, .slice none 0 0, .int .i64 0] rfl (by kernel_rfl) (by kernel_rfl) (by kernel_rfl)
      (OpenSpec.preRow_of_cond 8 hx (by kernel_rfl) (fun k hk => by cases hk) (by kernel_rfl) (laid_met os))) ?_
  intro W base args ds gs before hval hW _ hcond hsz hL _ _
  exact contract H enc W base args ds gs before hval hW hsz

theorem said : Rows.TimersStepsSaid :=
  OpenClaim.holds_of_cond 5 Try.f5 rfl rfl rfl rfl rfl rfl rfl ⟨rfl, rfl, rfl, rfl, rfl⟩ rfl rfl rfl rfl rfl (by kernel_rfl) Try.func5 (by kernel_rfl)
    (of_decide_eq_true (by kernel_rfl)) (by unfold Func.isWrapper; first | (rw [if_pos (by decide +kernel)]; kernel_rfl) | (rw [if_neg (by decide +kernel)]; exact ⟨rfl, rfl⟩))
    (fun os started H enc _ F => by rw [OpenClaim.pre_eq_preRow]; exact lifted os started H enc F)

/-- THE STATEMENT -/
theorem proved : Rows.TimersStepsSaid := said
#print axioms proved
end Go.Proofs.Ytinhhfnknlmdgaa.timersSteps
