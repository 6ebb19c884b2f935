/-
  What CwndStays says of every run of events is true: whatever happens a window is from one packet to its cap, and an acknowledgement makes it greater by at most one packet (P12.6, P12.7). Conditions: none.
-/
import Derived.Test.YtaaghlgleofcgaaRows
import Derived.WalkKit
import Derived.ProofKit
import Derived.OpenShut
import Derived.ShutString
import Derived.ChangeOld
import Derived.Below
import Derived.SizedLaws
import Derived.Deep.DeepHandedRow
import Derived.LaidLaws
import Derived.ChangeMaps5
import Derived.Test.YtaaghlgleofcgaaCwH
import Derived.Test.YtaaghlgleofcgaaAg
namespace Go.Proofs.Ytaaghlgleofcgaa.cwndStays
open Go.ChangeShapes Go.WideShapes Go.ChangeAt Go.RowKit
open Go.ChangeMaps (open_string shut_string)
set_option linter.unusedVariables false

theorem own : ownKnob Try.prog.godebug = none := by kernel_rfl
theorem laidOut : laidOutB Try.prog = true := by kernel_rfl

theorem kd23 : Ag.Kind Try.prog 23 5 (fun q : Int × Int × Int × Int × Int => [.int .i64 q.1, .int .i64 q.2.1, .int .i64 q.2.2.1, .int .i64 q.2.2.2.1, .int .i64 q.2.2.2.2]) (fun q => (Lit.int .i64 q.1).wf = true ∧ (Lit.int .i64 q.2.1).wf = true ∧ (Lit.int .i64 q.2.2.1).wf = true ∧ (Lit.int .i64 q.2.2.2.1).wf = true ∧ (Lit.int .i64 q.2.2.2.2).wf = true) := by
  refine ⟨by kernel_rfl, by decide, fun _ => rfl, fun {H enc W base held fuel cl x} h _ => ?_⟩
  obtain ⟨xs, n, _, _, hcl, hxl, hfield⟩ := DataW.trod_struct Try.underlying23 h
  rw [show Try.prog.cellsOf 23 = 5 by kernel_rfl] at hcl
  match cl, hcl with
  | [v0, v1, v2, v3, v4], _ =>
    match xs, hxl with
    | [y0, y1, y2, y3, y4], _ =>
      have g0 := hfield 0 _ rfl
      simp [show Try.prog.cellsOf 3 = 1 by kernel_rfl] at g0
      obtain ⟨n0, e0, _, w0⟩ := DataW.trod_int Try.underlying3 g0
      simp at e0
      subst e0
      have g1 := hfield 1 _ rfl
      simp [show Try.prog.cellsOf 3 = 1 by kernel_rfl] at g1
      obtain ⟨n1, e1, _, w1⟩ := DataW.trod_int Try.underlying3 g1
      simp at e1
      subst e1
      have g2 := hfield 2 _ rfl
      simp [show Try.prog.cellsOf 3 = 1 by kernel_rfl] at g2
      obtain ⟨n2, e2, _, w2⟩ := DataW.trod_int Try.underlying3 g2
      simp at e2
      subst e2
      have g3 := hfield 3 _ rfl
      simp [show Try.prog.cellsOf 3 = 1 by kernel_rfl] at g3
      obtain ⟨n3, e3, _, w3⟩ := DataW.trod_int Try.underlying3 g3
      simp at e3
      subst e3
      have g4 := hfield 4 _ rfl
      simp [show Try.prog.cellsOf 3 = 1 by kernel_rfl] at g4
      obtain ⟨n4, e4, _, w4⟩ := DataW.trod_int Try.underlying3 g4
      simp at e4
      subst e4
      exact ⟨(n0, n1, n2, n3, n4), rfl, w0, w1, w2, w3, w4⟩
theorem kd38 : Ag.Kind Try.prog 38 4 (fun q : Int × Int × Bool × Bool => [.int .i64 q.1, .int .i64 q.2.1, .bool q.2.2.1, .bool q.2.2.2]) (fun q => (Lit.int .i64 q.1).wf = true ∧ (Lit.int .i64 q.2.1).wf = true) := by
  refine ⟨by kernel_rfl, by decide, fun _ => rfl, fun {H enc W base held fuel cl x} h _ => ?_⟩
  obtain ⟨xs, n, _, _, hcl, hxl, hfield⟩ := DataW.trod_struct Try.underlying38 h
  rw [show Try.prog.cellsOf 38 = 4 by kernel_rfl] at hcl
  match cl, hcl with
  | [v0, v1, v2, v3], _ =>
    match xs, hxl with
    | [y0, y1, y2, y3], _ =>
      have g0 := hfield 0 _ rfl
      simp [show Try.prog.cellsOf 3 = 1 by kernel_rfl] at g0
      obtain ⟨n0, e0, _, w0⟩ := DataW.trod_int Try.underlying3 g0
      simp at e0
      subst e0
      have g1 := hfield 1 _ rfl
      simp [show Try.prog.cellsOf 3 = 1 by kernel_rfl] at g1
      obtain ⟨n1, e1, _, w1⟩ := DataW.trod_int Try.underlying3 g1
      simp at e1
      subst e1
      have g2 := hfield 2 _ rfl
      simp [show Try.prog.cellsOf 4 = 1 by kernel_rfl] at g2
      obtain ⟨n2, e2, _⟩ := DataW.trod_bool Try.underlying4 g2
      simp at e2
      subst e2
      have g3 := hfield 3 _ rfl
      simp [show Try.prog.cellsOf 4 = 1 by kernel_rfl] at g3
      obtain ⟨n3, e3, _⟩ := DataW.trod_bool Try.underlying4 g3
      simp at e3
      subst e3
      exact ⟨(n0, n1, n2, n3), rfl, w0, w1⟩
open Ba (hidden Has)
open Ow (Own)
open Cw
set_option maxRecDepth 20000 in
set_option maxHeartbeats 8000000 in

theorem walk (q0 : Int × Int × Int × Int × Int) (a1 : Option Addr) (len1 cap1 : Nat) (z1 : List (Int × Int × Bool × Bool)) (w : World) (w0 : (fun q => (Lit.int .i64 q.1).wf = true ∧ (Lit.int .i64 q.2.1).wf = true ∧ (Lit.int .i64 q.2.2.1).wf = true ∧ (Lit.int .i64 q.2.2.2.1).wf = true ∧ (Lit.int .i64 q.2.2.2.2).wf = true) q0) (w1 : Ag.Rows (fun q : Int × Int × Bool × Bool => [.int .i64 q.1, .int .i64 q.2.1, .bool q.2.2.1, .bool q.2.2.2]) (fun q => (Lit.int .i64 q.1).wf = true ∧ (Lit.int .i64 q.2.1).wf = true) 4 w a1 len1 z1) (s1 : len1 ≤ cap1 ∧ cap1 * Try.prog.bytesOf 38 ≤ 140737488351232 ∧ (a1 = none → len1 = 0 ∧ cap1 = 0)) :
    Calls Try.prog 6 #[.agg ((fun q : Int × Int × Int × Int × Int => [.int .i64 q.1, .int .i64 q.2.1, .int .i64 q.2.2.1, .int .i64 q.2.2.2.1, .int .i64 q.2.2.2.2]) q0).toArray, .slice a1 len1 cap1] w fun e w' => e = .returned (.bool true) ∧ Below w.heap.size w w' := by
  obtain ⟨cz, sz, pz, mz, kz⟩ := q0
  have AW := hidden Cw.awake
  have O := hidden (ow1 w cz sz pz mz kz)
  have HZ := hidden w1
  have hlen : len1 ≤ 140737488355328 := w1.2.2.1
  clear w0 w1 s1
  by_cases hM : mayP cz sz pz mz kz
  · have RM0 := hidden (rMay_ok hM)
    have HM := hidden hM
    clear hM
    go_enter Try.func6, Try.ntmps6
    go_wp2_with fail
    refine Calls.mono (AW.out _) ?_
    rintro e w1 ⟨rfl, hB⟩
    have O1 := hidden (O.out.later hB)
    obtain ⟨c0, c1, c2, c3, c4⟩ := cells5 O1.out (.head _)
    clear hB O AW
    go_wp2_with fail
    refine Calls.mono (RM0.out _) ?_
    rintro e w2 ⟨rfl, hB⟩
    have O2 := hidden (O1.out.later hB)
    clear hB O1 RM0 c0 c1 c2 c3 c4
    go_wp2_with fail
    go_loopw [5] (fun i wr => ∃ (q : Int) (c s p m k : Int), 0 ≤ q ∧ q ≤ (len1 : Int) ∧ i = .int .i64 q ∧ Hid (mayP c s p m k) ∧ Hid (Own w wr [(w.heap.size, #[.int .i64 c, .int .i64 s, .int .i64 p, .int .i64 m, .int .i64 k], 23)])) (fun i _ => len1 - (intOf i).toNat)
    case atStart => exact ⟨0, cz, sz, pz, mz, kz, by omega, by omega, rfl, HM, O2⟩
    case round =>
      clear HM O2
      obtain ⟨q, c, s, p, m, k, j1, j2, rfl, HM, HO⟩ := hrel
      by_cases hq1 : q < (len1 : Int)
      · obtain ⟨h1, h2, h3, h4⟩ := HZ.out.later HO.out.below
        obtain ⟨z, hz⟩ : ∃ z, z1[q.toNat]? = some z := ⟨_, List.getElem?_eq_getElem (by omega)⟩
        rcases h4 with h4 | ⟨g, off, rfl, hg, hcell⟩
        · omega
        obtain ⟨kd, n, f, mv⟩ := z
        have d0 : wr.cell? ⟨g, off + q.toNat * 4, none⟩ = some (.int .i64 kd) := hcell _ _ hz 0 _ rfl
        have d1 : wr.cell? ⟨g, off + q.toNat * 4 + 1, none⟩ = some (.int .i64 n) := hcell _ _ hz 1 _ rfl
        have DC2 : Hid (∀ W, Below w.heap.size w W → W.cell? ⟨g, off + q.toNat * 4 + 2, none⟩ = some (.bool f)) := fun W hB => by
          obtain ⟨_, _, _, h4⟩ := HZ.out.later hB
          rcases h4 with h4 | ⟨g', off', he, _, hc⟩
          · omega
          · cases he
            exact hc _ _ hz 2 _ rfl
        have DC3 : Hid (∀ W, Below w.heap.size w W → W.cell? ⟨g, off + q.toNat * 4 + 3, none⟩ = some (.bool mv)) := fun W hB => by
          obtain ⟨_, _, _, h4⟩ := HZ.out.later hB
          rcases h4 with h4 | ⟨g', off', he, _, hc⟩
          · omega
          · cases he
            exact hc _ _ hz 3 _ rfl
        have dl := Ba.cell_lt d0
        clear h1 h2 h3 hcell hz
        obtain ⟨c0, c1, c2, c3, c4⟩ := cells5 HO.out (.head _)
        have hl := HO.out.lt (.head _)
        by_cases hn : 0 ≤ n ∧ n ≤ 1073741824
        · obtain ⟨hn1, hn2⟩ := hn
          have hm1 : 100 ≤ m ∧ m ≤ 1500 := HM.out.1.1
          have hm2 : m ≤ c ∧ c ≤ k := HM.out.2.1
          have hm3 : k ≤ 1073741824 := HM.out.1.2.2
          by_cases hk : kd = 0
          · subst hk
            obtain ⟨x0, x2, e5, hx, hle1, hle2⟩ := ack_ok HM.out ⟨hn1, hn2⟩ f mv
            have AC : Hid (∀ W, Calls Try.prog 8 #[.agg #[.int .i64 c, .int .i64 s, .int .i64 p, .int .i64 m, .int .i64 k], .int .i64 n, .bool f, .bool mv] W fun e w' => e = .returned (.tuple #[.agg #[.int .i64 x0, .int .i64 s, .int .i64 x2, .int .i64 m, .int .i64 k], .int .i64 0]) ∧ Below W.heap.size W w') := fun W => by
              have := ackX c s p m k n f mv W
              rw [e5] at this
              exact this
            have RX := hidden (rMay_ok hx)
            have HX := hidden hx
            clear e5 hx
            have EA : Hid (∀ (args : Array Value) (w : World), (callFunc 8 args).run Try.prog w = .ok (.enter 8 args) w) := enters_of Try.func8 (by kernel_rfl) rfl
            have OX := hidden (HO.out.alloc #[.int .i64 c, .int .i64 s, .int .i64 p, .int .i64 m, .int .i64 k] 23)
            have IXR : Hid (∀ {W : World}, (Instr.indexAt 36 (.slice (some ⟨g, off, none⟩) len1 cap1) (.int .i64 q)).run Try.prog W = .ok (.pointer (some ⟨g, off + q.toNat * 4, none⟩)) W) := fun {W} => by simp [go_sem, j1, hq1]
            go_upto_region 13 with fail
            clear c0 c1 c2 c3 c4 d0 d1
            refine Ord.wp_region_ex0 (X := Unit) (by kernel_rfl) 143 (fun x => [(some 43, .agg #[.int .i64 c, .int .i64 s, .int .i64 p, .int .i64 m, .int .i64 k]), (some 44, .int .i64 n), (some 45, .slice (some ⟨g, off, none⟩) len1 cap1), (some 46, .int .i64 q), (some 47, .pointer (some ⟨g, off + q.toNat * 4, none⟩)), (some 48, .pointer (some ⟨g, off + q.toNat * 4 + 2, none⟩)), (some 49, .bool f), (some 50, .slice (some ⟨g, off, none⟩) len1 cap1), (some 51, .int .i64 q), (some 52, .pointer (some ⟨g, off + q.toNat * 4, none⟩)), (some 53, .pointer (some ⟨g, off + q.toNat * 4 + 3, none⟩)), (some 54, .bool mv), (some 55, .tuple #[.agg #[.int .i64 x0, .int .i64 s, .int .i64 x2, .int .i64 m, .int .i64 k], .int .i64 0]), (some 42, .tuple #[.agg #[.int .i64 x0, .int .i64 s, .int .i64 x2, .int .i64 m, .int .i64 k], .int .i64 0]), (some 56, .agg #[.int .i64 x0, .int .i64 s, .int .i64 x2, .int .i64 m, .int .i64 k]), (some 57, .int .i64 0), (none, undef), (some 8, .int .i64 0)]) [some 43, some 44, some 45, some 46, some 47, some 48, some 49, some 50, some 51, some 52, some 53, some 54, some 55, some 42, some 56, some 57, none, some 8] rfl (fun listed hsz hr => Ord.all_listedC (rank := [0, 1, 2, 3, 4, 5, 6, 7, 8, 9, 10, 11, 12, 13, 14, 15, 16, 17]) (by kernel_rfl) hsz hr) (by rfl) (fun _ => rfl) (by kernel_rfl) (Rg.StM [12, 16] (fun kA _ w' => (kA ≤ 1 → Own w w' [(wr.heap.size, #[.int .i64 c, .int .i64 s, .int .i64 p, .int .i64 m, .int .i64 k], 23), (w.heap.size, #[.int .i64 c, .int .i64 s, .int .i64 p, .int .i64 m, .int .i64 k], 23)]) ∧ (2 ≤ kA → Own w w' [(wr.heap.size, #[.int .i64 x0, .int .i64 s, .int .i64 x2, .int .i64 m, .int .i64 k], 23), (w.heap.size, #[.int .i64 c, .int .i64 s, .int .i64 p, .int .i64 m, .int .i64 k], 23)]))) (fun _ _ _ _ hL h => h.ext (n := 18) (by decide) hL) ?_ ?_ () ?_
            case refine_1 =>
              intro x Lq iq oq ac w' ho hi hcl hdep hF hW
              have f1 : ac.tmps.size = 143 := hF.1
              match iq, ho, hi, hdep with
              | 0, ho, hi, hdep =>
                cases ho
                have da0 : ac.eval (.tmp 2) = .pointer (some ⟨w.heap.size, 0, none⟩) := hF.old 2 rfl
                obtain ⟨kq, hlo, hhi, hA⟩ := hW.range 0 0 (.inl rfl) (.inr ⟨12, rfl, (Rg.no_of (fun h => hcl 12 _ rfl (h) ⟨0, .data⟩ (by simp) rfl) hi)⟩)
                obtain ⟨c0, c1, c2, c3, c4⟩ := cells5 (hA.1 (by omega)) (b := w.heap.size) (.tail _ (.head _))
                exact Ord.ex_value x rfl rfl (Rg.load da0 rfl (by simp [go_sem, c0, c1, c2, c3, c4])) rfl (hW.keep (by decide))
              | 1, ho, hi, hdep =>
                cases ho
                have da0 : ac.eval (.tmp 6) = .int .i64 n := hF.old 6 rfl
                exact Ord.ex_value x rfl rfl (Rg.mv da0 rfl) rfl (hW.keep (by decide))
              | 2, ho, hi, hdep =>
                cases ho
                have da0 : ac.eval (.tmp 1) = .slice (some ⟨g, off, none⟩) len1 cap1 := hF.old 1 rfl
                exact Ord.ex_value x rfl rfl (Rg.mv da0 rfl) rfl (hW.keep (by decide))
              | 3, ho, hi, hdep =>
                cases ho
                have da0 : ac.eval (.tmp 5) = .int .i64 q := hF.old 5 rfl
                exact Ord.ex_value x rfl rfl (Rg.mv da0 rfl) rfl (hW.keep (by decide))
              | 4, ho, hi, hdep =>
                cases ho
                have da0 : ac.eval (.tmp 45) = .slice (some ⟨g, off, none⟩) len1 cap1 := hF.2.2.2 2 45 _ rfl (hdep ⟨2, .data⟩ (by simp) rfl)
                have da1 : ac.eval (.tmp 46) = .int .i64 q := hF.2.2.2 3 46 _ rfl (hdep ⟨3, .data⟩ (by simp) rfl)
                exact Ord.ex_value x rfl rfl (Rg.ix da0 da1 rfl IXR.out) rfl (hW.keep (by decide))
              | 5, ho, hi, hdep =>
                cases ho
                have da0 : ac.eval (.tmp 47) = .pointer (some ⟨g, off + q.toNat * 4, none⟩) := hF.2.2.2 4 47 _ rfl (hdep ⟨4, .data⟩ (by simp) rfl)
                exact Ord.ex_value x rfl rfl (Rg.fa da0 rfl (by simp [go_sem])) rfl (hW.keep (by decide))
              | 6, ho, hi, hdep =>
                cases ho
                have da0 : ac.eval (.tmp 48) = .pointer (some ⟨g, off + q.toNat * 4 + 2, none⟩) := hF.2.2.2 5 48 _ rfl (hdep ⟨5, .data⟩ (by simp) rfl)
                obtain ⟨kq, hlo, hhi, hA⟩ := hW.range 0 0 (.inl rfl) (.inr ⟨12, rfl, (Rg.no_of (fun h => hcl 12 _ rfl (h) ⟨6, .data⟩ (by simp) rfl) hi)⟩)
                have d2 := DC2.out _ (hA.1 (by omega)).below
                exact Ord.ex_value x rfl rfl (Rg.load da0 rfl (by simp [go_sem, d2])) rfl (hW.keep (by decide))
              | 7, ho, hi, hdep =>
                cases ho
                have da0 : ac.eval (.tmp 1) = .slice (some ⟨g, off, none⟩) len1 cap1 := hF.old 1 rfl
                exact Ord.ex_value x rfl rfl (Rg.mv da0 rfl) rfl (hW.keep (by decide))
              | 8, ho, hi, hdep =>
                cases ho
                have da0 : ac.eval (.tmp 5) = .int .i64 q := hF.old 5 rfl
                exact Ord.ex_value x rfl rfl (Rg.mv da0 rfl) rfl (hW.keep (by decide))
              | 9, ho, hi, hdep =>
                cases ho
                have da0 : ac.eval (.tmp 50) = .slice (some ⟨g, off, none⟩) len1 cap1 := hF.2.2.2 7 50 _ rfl (hdep ⟨7, .data⟩ (by simp) rfl)
                have da1 : ac.eval (.tmp 51) = .int .i64 q := hF.2.2.2 8 51 _ rfl (hdep ⟨8, .data⟩ (by simp) rfl)
                exact Ord.ex_value x rfl rfl (Rg.ix da0 da1 rfl IXR.out) rfl (hW.keep (by decide))
              | 10, ho, hi, hdep =>
                cases ho
                have da0 : ac.eval (.tmp 52) = .pointer (some ⟨g, off + q.toNat * 4, none⟩) := hF.2.2.2 9 52 _ rfl (hdep ⟨9, .data⟩ (by simp) rfl)
                exact Ord.ex_value x rfl rfl (Rg.fa da0 rfl (by simp [go_sem])) rfl (hW.keep (by decide))
              | 11, ho, hi, hdep =>
                cases ho
                have da0 : ac.eval (.tmp 53) = .pointer (some ⟨g, off + q.toNat * 4 + 3, none⟩) := hF.2.2.2 10 53 _ rfl (hdep ⟨10, .data⟩ (by simp) rfl)
                obtain ⟨kq, hlo, hhi, hA⟩ := hW.range 0 0 (.inl rfl) (.inr ⟨12, rfl, (Rg.no_of (fun h => hcl 12 _ rfl (h) ⟨11, .data⟩ (by simp) rfl) hi)⟩)
                have d3 := DC3.out _ (hA.1 (by omega)).below
                exact Ord.ex_value x rfl rfl (Rg.load da0 rfl (by simp [go_sem, d3])) rfl (hW.keep (by decide))
              | 12, ho, hi, hdep =>
                cases ho
                have da0 : ac.eval (.tmp 43) = .agg #[.int .i64 c, .int .i64 s, .int .i64 p, .int .i64 m, .int .i64 k] := hF.2.2.2 0 43 _ rfl (hdep ⟨0, .data⟩ (by simp) rfl)
                have da1 : ac.eval (.tmp 44) = .int .i64 n := hF.2.2.2 1 44 _ rfl (hdep ⟨1, .data⟩ (by simp) rfl)
                have da2 : ac.eval (.tmp 49) = .bool f := hF.2.2.2 6 49 _ rfl (hdep ⟨6, .data⟩ (by simp) rfl)
                have da3 : ac.eval (.tmp 54) = .bool mv := hF.2.2.2 11 54 _ rfl (hdep ⟨11, .data⟩ (by simp) rfl)
                have hA := hW.at (k := 0) rfl hi (.inl rfl)
                refine Rg.ex_call x rfl rfl (Rg.enter (args := #[.agg #[.int .i64 c, .int .i64 s, .int .i64 p, .int .i64 m, .int .i64 k], .int .i64 n, .bool f, .bool mv]) rfl rfl (by simp [da0, da1, da2, da3]) EA.out) (Calls.mono (AC.out _) ?_)
                rintro e w2 ⟨rfl, hB⟩
                exact ⟨rfl, hW.next (k := 0) rfl (by decide) hi (.inl rfl) ⟨fun _ => (hA.1 (by omega)).later hB, fun h => absurd h (by decide)⟩⟩
              | 13, ho, hi, hdep =>
                cases ho
                have da0 : ac.eval (.tmp 55) = .tuple #[.agg #[.int .i64 x0, .int .i64 s, .int .i64 x2, .int .i64 m, .int .i64 k], .int .i64 0] := hF.2.2.2 12 55 _ rfl (hdep ⟨12, .data⟩ (by simp) rfl)
                exact Ord.ex_value x rfl rfl (Rg.mv da0 rfl) rfl (hW.keep (by decide))
              | 14, ho, hi, hdep =>
                cases ho
                have da0 : ac.eval (.tmp 42) = .tuple #[.agg #[.int .i64 x0, .int .i64 s, .int .i64 x2, .int .i64 m, .int .i64 k], .int .i64 0] := hF.2.2.2 13 42 _ rfl (hdep ⟨13, .data⟩ (by simp) rfl)
                exact Ord.ex_value x rfl rfl (Rg.ext da0 rfl rfl) rfl (hW.keep (by decide))
              | 15, ho, hi, hdep =>
                cases ho
                have da0 : ac.eval (.tmp 42) = .tuple #[.agg #[.int .i64 x0, .int .i64 s, .int .i64 x2, .int .i64 m, .int .i64 k], .int .i64 0] := hF.2.2.2 13 42 _ rfl (hdep ⟨13, .data⟩ (by simp) rfl)
                exact Ord.ex_value x rfl rfl (Rg.ext da0 rfl rfl) rfl (hW.keep (by decide))
              | 16, ho, hi, hdep =>
                cases ho
                have da0 : ac.eval (.tmp 7) = .pointer (some ⟨wr.heap.size, 0, none⟩) := hF.old 7 rfl
                have da1 : ac.eval (.tmp 56) = .agg #[.int .i64 x0, .int .i64 s, .int .i64 x2, .int .i64 m, .int .i64 k] := hF.2.2.2 14 56 _ rfl (hdep ⟨14, .data⟩ (by simp) rfl)
                have hA := hW.at (k := 1) rfl hi (.inr ⟨12, rfl, (hdep ⟨12, .chain⟩ (by simp) rfl)⟩)
                have hO := hA.1 (by omega)
                exact Rg.ex_skip x rfl rfl (Rg.sto da0 da1 rfl (Ow.store_row (hO.has (.head _)) (by kernel_rfl) rfl (by simp [Value.oneCell']))) rfl (hW.next (k := 1) rfl (by decide) hi (.inr ⟨12, rfl, (hdep ⟨12, .chain⟩ (by simp) rfl)⟩) ⟨fun h => absurd h (by decide), fun _ => hO.row _ (by simp; omega)⟩)
              | 17, ho, hi, hdep =>
                cases ho
                have da0 : ac.eval (.tmp 57) = .int .i64 0 := hF.2.2.2 15 57 _ rfl (hdep ⟨15, .data⟩ (by simp) rfl)
                exact Ord.ex_value x rfl rfl (Rg.asg da0 rfl) rfl (hW.keep (by decide))
            case refine_2 =>
              intro x w8 hW
              have Q8 := hidden (hW.last.2 (by decide))
              clear hW AC IXR OX EA
              obtain ⟨c0, c1, c2, c3, c4⟩ := cells5 Q8.out (b := w.heap.size) (.tail _ (.head _))
              obtain ⟨e0, e1, e2, e3, e4⟩ := cells5 Q8.out (b := wr.heap.size) (.head _)
              simp only [Ord.puts, Ord.prs]
              go_simp
              go_wp2_with fail
              refine Calls.mono (RX.out _) ?_
              rintro e w9 ⟨rfl, hB⟩
              have P9 := hidden (Q8.out.later hB)
              clear hB Q8 RX c0 c1 c2 c3 c4 e0 e1 e2 e3 e4
              obtain ⟨⟨c0, c1, c2, c3, c4⟩, f0, f1, f2, f3, f4⟩ := ans P9.out (b := w.heap.size) (.tail _ (.head _))
              obtain ⟨e0, e1, e2, e3, e4⟩ := cells5 P9.out (b := wr.heap.size) (.head _)
              clear dl
              go_wp2
              go_roundw
              case rel => exact ⟨_, x0, s, x2, m, k, by omega, by omega, rfl, HX, set5 (P9.out.sub (M := [(w.heap.size, #[.int .i64 c, .int .i64 s, .int .i64 p, .int .i64 m, .int .i64 k], 23)]) (by simp)) (by simp) _ _ _ _ _⟩
              case measure => simp [intOf]; omega
            case refine_3 => exact Rg.StM.first ⟨fun _ => OX.out.drew, fun h => absurd h (by decide)⟩
          · have k0 : (kd == 0) = false := beq_eq_false_iff_ne.2 hk
            clear hk
            by_cases hk : kd = 1
            · subst hk
              obtain ⟨x0, e5, hx⟩ := grow_ok HM.out ⟨hn1, hn2⟩
              have KX : Hid (∀ W, Calls Try.prog 10 #[.agg #[.int .i64 c, .int .i64 s, .int .i64 p, .int .i64 m, .int .i64 k], .int .i64 n] W fun e w' => e = .returned (.tuple #[.agg #[.int .i64 x0, .int .i64 s, .int .i64 p, .int .i64 m, .int .i64 k], .int .i64 0]) ∧ Below W.heap.size W w') := fun W => by
                have := growX c s p m k n W
                rw [e5] at this
                exact this
              have RX := hidden (rMay_ok hx)
              have HX := hidden hx
              clear e5 hx
              have OX := hidden (HO.out.alloc #[.int .i64 c, .int .i64 s, .int .i64 p, .int .i64 m, .int .i64 k] 23)
              go_wp2_with fail
              refine Calls.mono (KX.out _) ?_
              rintro e w8 ⟨rfl, hB⟩
              have P8 := hidden (OX.out.later hB)
              clear hB OX KX c0 c1 c2 c3 c4
              obtain ⟨c0, c1, c2, c3, c4⟩ := cells5 P8.out (b := w.heap.size) (.tail _ (.head _))
              obtain ⟨⟨e0, e1, e2, e3, e4⟩, f0, f1, f2, f3, f4⟩ := ans P8.out (b := wr.heap.size) (.head _)
              have hne := hl
              have Q8 : Hid (Own w (((((w8.setCell ⟨wr.heap.size, 0, none⟩ (.int .i64 x0)).setCell ⟨wr.heap.size, 1, none⟩ (.int .i64 s)).setCell ⟨wr.heap.size, 2, none⟩ (.int .i64 p)).setCell ⟨wr.heap.size, 3, none⟩ (.int .i64 m)).setCell ⟨wr.heap.size, 4, none⟩ (.int .i64 k)) [(wr.heap.size, #[.int .i64 x0, .int .i64 s, .int .i64 p, .int .i64 m, .int .i64 k], 23), (w.heap.size, #[.int .i64 c, .int .i64 s, .int .i64 p, .int .i64 m, .int .i64 k], 23)]) := set5 P8.out (by simp; omega) _ _ _ _ _
              go_upto_region 30 with fail
              generalize ((((w8.setCell ⟨wr.heap.size, 0, none⟩ (.int .i64 x0)).setCell ⟨wr.heap.size, 1, none⟩ (.int .i64 s)).setCell ⟨wr.heap.size, 2, none⟩ (.int .i64 p)).setCell ⟨wr.heap.size, 3, none⟩ (.int .i64 m)).setCell ⟨wr.heap.size, 4, none⟩ (.int .i64 k) = W9 at Q8 ⊢
              clear c0 c1 c2 c3 c4 e0 e1 e2 e3 e4 f0 f1 f2 f3 f4 P8
              obtain ⟨c0, c1, c2, c3, c4⟩ := cells5 Q8.out (b := w.heap.size) (.tail _ (.head _))
              obtain ⟨e0, e1, e2, e3, e4⟩ := cells5 Q8.out (b := wr.heap.size) (.head _)
              go_wp2_with fail
              refine Calls.mono (RX.out _) ?_
              rintro e w9 ⟨rfl, hB⟩
              have P9 := hidden (Q8.out.later hB)
              clear hB Q8 RX c0 c1 c2 c3 c4 e0 e1 e2 e3 e4
              obtain ⟨⟨c0, c1, c2, c3, c4⟩, f0, f1, f2, f3, f4⟩ := ans P9.out (b := w.heap.size) (.tail _ (.head _))
              obtain ⟨e0, e1, e2, e3, e4⟩ := cells5 P9.out (b := wr.heap.size) (.head _)
              clear dl
              go_wp2
              go_roundw
              case rel => exact ⟨_, x0, s, p, m, k, by omega, by omega, rfl, HX, set5 (P9.out.sub (M := [(w.heap.size, #[.int .i64 c, .int .i64 s, .int .i64 p, .int .i64 m, .int .i64 k], 23)]) (by simp)) (by simp) _ _ _ _ _⟩
              case measure => simp [intOf]; omega
            · have k1 : (kd == 1) = false := beq_eq_false_iff_ne.2 hk
              clear hk
              by_cases hk : kd = 2
              · subst hk
                obtain ⟨x0, x1, e5, hx, hle⟩ := fast_ok HM.out
                have KX : Hid (∀ W, Calls Try.prog 13 #[.agg #[.int .i64 c, .int .i64 s, .int .i64 p, .int .i64 m, .int .i64 k]] W fun e w' => e = .returned (.tuple #[.agg #[.int .i64 x0, .int .i64 x1, .int .i64 0, .int .i64 m, .int .i64 k], .int .i64 0]) ∧ Below W.heap.size W w') := fun W => by
                  have := fastX c s p m k W
                  rw [e5] at this
                  exact this
                have RX := hidden (rMay_ok hx)
                have HX := hidden hx
                clear e5 hx
                have OX := hidden (HO.out.alloc #[.int .i64 c, .int .i64 s, .int .i64 p, .int .i64 m, .int .i64 k] 23)
                go_wp2_with fail
                refine Calls.mono (KX.out _) ?_
                rintro e w8 ⟨rfl, hB⟩
                have P8 := hidden (OX.out.later hB)
                clear hB OX KX c0 c1 c2 c3 c4
                obtain ⟨c0, c1, c2, c3, c4⟩ := cells5 P8.out (b := w.heap.size) (.tail _ (.head _))
                obtain ⟨⟨e0, e1, e2, e3, e4⟩, f0, f1, f2, f3, f4⟩ := ans P8.out (b := wr.heap.size) (.head _)
                have hne := hl
                have Q8 : Hid (Own w (((((w8.setCell ⟨wr.heap.size, 0, none⟩ (.int .i64 x0)).setCell ⟨wr.heap.size, 1, none⟩ (.int .i64 x1)).setCell ⟨wr.heap.size, 2, none⟩ (.int .i64 0)).setCell ⟨wr.heap.size, 3, none⟩ (.int .i64 m)).setCell ⟨wr.heap.size, 4, none⟩ (.int .i64 k)) [(wr.heap.size, #[.int .i64 x0, .int .i64 x1, .int .i64 0, .int .i64 m, .int .i64 k], 23), (w.heap.size, #[.int .i64 c, .int .i64 s, .int .i64 p, .int .i64 m, .int .i64 k], 23)]) := set5 P8.out (by simp; omega) _ _ _ _ _
                go_upto_region 20 with fail
                generalize ((((w8.setCell ⟨wr.heap.size, 0, none⟩ (.int .i64 x0)).setCell ⟨wr.heap.size, 1, none⟩ (.int .i64 x1)).setCell ⟨wr.heap.size, 2, none⟩ (.int .i64 0)).setCell ⟨wr.heap.size, 3, none⟩ (.int .i64 m)).setCell ⟨wr.heap.size, 4, none⟩ (.int .i64 k) = W9 at Q8 ⊢
                clear c0 c1 c2 c3 c4 e0 e1 e2 e3 e4 f0 f1 f2 f3 f4 P8
                obtain ⟨c0, c1, c2, c3, c4⟩ := cells5 Q8.out (b := w.heap.size) (.tail _ (.head _))
                obtain ⟨e0, e1, e2, e3, e4⟩ := cells5 Q8.out (b := wr.heap.size) (.head _)
                go_wp2_with fail
                refine Calls.mono (RX.out _) ?_
                rintro e w9 ⟨rfl, hB⟩
                have P9 := hidden (Q8.out.later hB)
                clear hB Q8 RX c0 c1 c2 c3 c4 e0 e1 e2 e3 e4
                obtain ⟨⟨c0, c1, c2, c3, c4⟩, f0, f1, f2, f3, f4⟩ := ans P9.out (b := w.heap.size) (.tail _ (.head _))
                obtain ⟨e0, e1, e2, e3, e4⟩ := cells5 P9.out (b := wr.heap.size) (.head _)
                clear dl
                go_wp2
                go_roundw
                case rel => exact ⟨_, x0, x1, 0, m, k, by omega, by omega, rfl, HX, set5 (P9.out.sub (M := [(w.heap.size, #[.int .i64 c, .int .i64 s, .int .i64 p, .int .i64 m, .int .i64 k], 23)]) (by simp)) (by simp) _ _ _ _ _⟩
                case measure => simp [intOf]; omega
              · have k2 : (kd == 2) = false := beq_eq_false_iff_ne.2 hk
                clear hk
                by_cases hk : kd = 3
                · subst hk
                  obtain ⟨x1, e5, hx⟩ := time_ok HM.out
                  have KX : Hid (∀ W, Calls Try.prog 15 #[.agg #[.int .i64 c, .int .i64 s, .int .i64 p, .int .i64 m, .int .i64 k]] W fun e w' => e = .returned (.tuple #[.agg #[.int .i64 m, .int .i64 x1, .int .i64 0, .int .i64 m, .int .i64 k], .int .i64 0]) ∧ Below W.heap.size W w') := fun W => by
                    have := timeX c s p m k W
                    rw [e5] at this
                    exact this
                  have RX := hidden (rMay_ok hx)
                  have HX := hidden hx
                  clear e5 hx
                  have OX := hidden (HO.out.alloc #[.int .i64 c, .int .i64 s, .int .i64 p, .int .i64 m, .int .i64 k] 23)
                  go_wp2_with fail
                  refine Calls.mono (KX.out _) ?_
                  rintro e w8 ⟨rfl, hB⟩
                  have P8 := hidden (OX.out.later hB)
                  clear hB OX KX c0 c1 c2 c3 c4
                  obtain ⟨c0, c1, c2, c3, c4⟩ := cells5 P8.out (b := w.heap.size) (.tail _ (.head _))
                  obtain ⟨⟨e0, e1, e2, e3, e4⟩, f0, f1, f2, f3, f4⟩ := ans P8.out (b := wr.heap.size) (.head _)
                  have hne := hl
                  have Q8 : Hid (Own w (((((w8.setCell ⟨wr.heap.size, 0, none⟩ (.int .i64 m)).setCell ⟨wr.heap.size, 1, none⟩ (.int .i64 x1)).setCell ⟨wr.heap.size, 2, none⟩ (.int .i64 0)).setCell ⟨wr.heap.size, 3, none⟩ (.int .i64 m)).setCell ⟨wr.heap.size, 4, none⟩ (.int .i64 k)) [(wr.heap.size, #[.int .i64 m, .int .i64 x1, .int .i64 0, .int .i64 m, .int .i64 k], 23), (w.heap.size, #[.int .i64 c, .int .i64 s, .int .i64 p, .int .i64 m, .int .i64 k], 23)]) := set5 P8.out (by simp; omega) _ _ _ _ _
                  go_upto_region 24 with fail
                  generalize ((((w8.setCell ⟨wr.heap.size, 0, none⟩ (.int .i64 m)).setCell ⟨wr.heap.size, 1, none⟩ (.int .i64 x1)).setCell ⟨wr.heap.size, 2, none⟩ (.int .i64 0)).setCell ⟨wr.heap.size, 3, none⟩ (.int .i64 m)).setCell ⟨wr.heap.size, 4, none⟩ (.int .i64 k) = W9 at Q8 ⊢
                  clear c0 c1 c2 c3 c4 e0 e1 e2 e3 e4 f0 f1 f2 f3 f4 P8
                  obtain ⟨c0, c1, c2, c3, c4⟩ := cells5 Q8.out (b := w.heap.size) (.tail _ (.head _))
                  obtain ⟨e0, e1, e2, e3, e4⟩ := cells5 Q8.out (b := wr.heap.size) (.head _)
                  go_wp2_with fail
                  refine Calls.mono (RX.out _) ?_
                  rintro e w9 ⟨rfl, hB⟩
                  have P9 := hidden (Q8.out.later hB)
                  clear hB Q8 RX c0 c1 c2 c3 c4 e0 e1 e2 e3 e4
                  obtain ⟨⟨c0, c1, c2, c3, c4⟩, f0, f1, f2, f3, f4⟩ := ans P9.out (b := w.heap.size) (.tail _ (.head _))
                  obtain ⟨e0, e1, e2, e3, e4⟩ := cells5 P9.out (b := wr.heap.size) (.head _)
                  clear dl
                  go_wp2
                  go_roundw
                  case rel => exact ⟨_, m, x1, 0, m, k, by omega, by omega, rfl, HX, set5 (P9.out.sub (M := [(w.heap.size, #[.int .i64 c, .int .i64 s, .int .i64 p, .int .i64 m, .int .i64 k], 23)]) (by simp)) (by simp) _ _ _ _ _⟩
                  case measure => simp [intOf]; omega
                · have k3 : (kd == 3) = false := beq_eq_false_iff_ne.2 hk
                  clear hk
                  by_cases hk : kd = 4
                  · subst hk
                    obtain ⟨x0, e5, hx, hle⟩ := idle_ok HM.out
                    have KX : Hid (∀ W, Calls Try.prog 17 #[.agg #[.int .i64 c, .int .i64 s, .int .i64 p, .int .i64 m, .int .i64 k]] W fun e w' => e = .returned (.tuple #[.agg #[.int .i64 x0, .int .i64 s, .int .i64 0, .int .i64 m, .int .i64 k], .int .i64 0]) ∧ Below W.heap.size W w') := fun W => by
                      have := idleX c s p m k W
                      rw [e5] at this
                      exact this
                    have RX := hidden (rMay_ok hx)
                    have HX := hidden hx
                    clear e5 hx
                    have OX := hidden (HO.out.alloc #[.int .i64 c, .int .i64 s, .int .i64 p, .int .i64 m, .int .i64 k] 23)
                    go_wp2_with fail
                    refine Calls.mono (KX.out _) ?_
                    rintro e w8 ⟨rfl, hB⟩
                    have P8 := hidden (OX.out.later hB)
                    clear hB OX KX c0 c1 c2 c3 c4
                    obtain ⟨c0, c1, c2, c3, c4⟩ := cells5 P8.out (b := w.heap.size) (.tail _ (.head _))
                    obtain ⟨⟨e0, e1, e2, e3, e4⟩, f0, f1, f2, f3, f4⟩ := ans P8.out (b := wr.heap.size) (.head _)
                    have hne := hl
                    have Q8 : Hid (Own w (((((w8.setCell ⟨wr.heap.size, 0, none⟩ (.int .i64 x0)).setCell ⟨wr.heap.size, 1, none⟩ (.int .i64 s)).setCell ⟨wr.heap.size, 2, none⟩ (.int .i64 0)).setCell ⟨wr.heap.size, 3, none⟩ (.int .i64 m)).setCell ⟨wr.heap.size, 4, none⟩ (.int .i64 k)) [(wr.heap.size, #[.int .i64 x0, .int .i64 s, .int .i64 0, .int .i64 m, .int .i64 k], 23), (w.heap.size, #[.int .i64 c, .int .i64 s, .int .i64 p, .int .i64 m, .int .i64 k], 23)]) := set5 P8.out (by simp; omega) _ _ _ _ _
                    go_upto_region 28 with fail
                    generalize ((((w8.setCell ⟨wr.heap.size, 0, none⟩ (.int .i64 x0)).setCell ⟨wr.heap.size, 1, none⟩ (.int .i64 s)).setCell ⟨wr.heap.size, 2, none⟩ (.int .i64 0)).setCell ⟨wr.heap.size, 3, none⟩ (.int .i64 m)).setCell ⟨wr.heap.size, 4, none⟩ (.int .i64 k) = W9 at Q8 ⊢
                    clear c0 c1 c2 c3 c4 e0 e1 e2 e3 e4 f0 f1 f2 f3 f4 P8
                    obtain ⟨c0, c1, c2, c3, c4⟩ := cells5 Q8.out (b := w.heap.size) (.tail _ (.head _))
                    obtain ⟨e0, e1, e2, e3, e4⟩ := cells5 Q8.out (b := wr.heap.size) (.head _)
                    go_wp2_with fail
                    refine Calls.mono (RX.out _) ?_
                    rintro e w9 ⟨rfl, hB⟩
                    have P9 := hidden (Q8.out.later hB)
                    clear hB Q8 RX c0 c1 c2 c3 c4 e0 e1 e2 e3 e4
                    obtain ⟨⟨c0, c1, c2, c3, c4⟩, f0, f1, f2, f3, f4⟩ := ans P9.out (b := w.heap.size) (.tail _ (.head _))
                    obtain ⟨e0, e1, e2, e3, e4⟩ := cells5 P9.out (b := wr.heap.size) (.head _)
                    clear dl
                    go_wp2
                    go_roundw
                    case rel => exact ⟨_, x0, s, 0, m, k, by omega, by omega, rfl, HX, set5 (P9.out.sub (M := [(w.heap.size, #[.int .i64 c, .int .i64 s, .int .i64 p, .int .i64 m, .int .i64 k], 23)]) (by simp)) (by simp) _ _ _ _ _⟩
                    case measure => simp [intOf]; omega
                  · have k4 : (kd == 4) = false := beq_eq_false_iff_ne.2 hk
                    clear hk
                    have RX := hidden (rMay_ok HM.out)
                    have HX := HM
                    have OX := hidden (HO.out.alloc #[.int .i64 c, .int .i64 s, .int .i64 p, .int .i64 m, .int .i64 k] 23)
                    go_wp2_with fail
                    refine Calls.mono (RX.out _) ?_
                    rintro e w9 ⟨rfl, hB⟩
                    have P9 := hidden (OX.out.later hB)
                    clear hB OX RX c0 c1 c2 c3 c4
                    obtain ⟨⟨c0, c1, c2, c3, c4⟩, f0, f1, f2, f3, f4⟩ := ans P9.out (b := w.heap.size) (.tail _ (.head _))
                    obtain ⟨e0, e1, e2, e3, e4⟩ := cells5 P9.out (b := wr.heap.size) (.head _)
                    clear dl
                    go_wp2
                    go_roundw
                    case rel => exact ⟨_, c, s, p, m, k, by omega, by omega, rfl, HX, set5 (P9.out.sub (M := [(w.heap.size, #[.int .i64 c, .int .i64 s, .int .i64 p, .int .i64 m, .int .i64 k], 23)]) (by simp)) (by simp) _ _ _ _ _⟩
                    case measure => simp [intOf]; omega
        · by_cases h0 : n < 0
          · clear hn
            go_wp2
            go_roundw
            case rel => exact ⟨_, c, s, p, m, k, by omega, by omega, rfl, HM, HO⟩
            case measure => simp [intOf]; omega
          · have h1 : 1073741824 < n := by omega
            have h2 : 0 ≤ n := by omega
            clear hn h0
            go_wp2
            go_roundw
            case rel => exact ⟨_, c, s, p, m, k, by omega, by omega, rfl, HM, HO⟩
            case measure => simp [intOf]; omega
      · have hq2 : (len1 : Int) ≤ q := by omega
        clear hq1
        go_wp2
        go_ret
        exact ⟨rfl, HO.out.below⟩
  · have RM0 := hidden (rMay_no hM)
    have CX := hidden (checkX cz sz pz mz kz)
    rw [chk_no hM] at CX
    clear hM
    go_enter Try.func6, Try.ntmps6
    go_wp2_with fail
    refine Calls.mono (AW.out _) ?_
    rintro e w1 ⟨rfl, hB⟩
    have O1 := hidden (O.out.later hB)
    obtain ⟨c0, c1, c2, c3, c4⟩ := cells5 O1.out (.head _)
    clear hB O AW
    go_wp2_with fail
    refine Calls.mono (RM0.out _) ?_
    rintro e w2 ⟨rfl, hB⟩
    have O2 := hidden (O1.out.later hB)
    clear hB O1 RM0 c0 c1 c2 c3 c4
    obtain ⟨c0, c1, c2, c3, c4⟩ := cells5 O2.out (.head _)
    go_wp2_with fail
    refine Calls.mono (CX.out _) ?_
    rintro e w3 ⟨rfl, hB⟩
    have O3 := hidden (O2.out.later hB).below
    clear hB O2 CX c0 c1 c2 c3 c4
    go_wp2
    go_ret
    exact ⟨rfl, O3.out⟩

theorem contract (H : Type) (enc : TypeId × Value → H) (W : World) (base : Nat) (args : Array Value) (ds gs : List (DataW H)) (before : List MemPlace)
    (hval : ∀ (j : Nat) t v, Try.f6.params[j]? = some t → args[j]? = some v → Value.okWide Try.prog W .any base t v)
    (hW : DataW.Whole enc Try.prog Try.f6.params.toList Rows.cwndStaysSpec.vars false W args.toList ds gs before)
    (hsz0 : (DataW.weightsEach Try.prog (Try.f6.params.toList ++ Rows.cwndStaysSpec.plain.varTypes Try.prog) (ds ++ gs)).all (· ≤ reachBytes) = true) :
    Calls Try.prog 6 args W fun e W' => ∃ v, e = .returned v ∧ Rows.cwndStaysSpec.post enc Try.prog Try.f6 false true false false W args v W' := by
  have hW' := hW
  obtain ⟨p, q, hA0, hV, rfl, hfz, hnd⟩ := hW
  have hA : DataW.TrodAll enc Try.prog W 0 (fun _ => true) true Try.f6.params.toList args.toList ds p := hA0
  have hsz := hsz0
  rw [Try.params6] at hA hval hsz
  obtain ⟨v0, vs0, d0, ds0, p0, q0, hargs, rfl, rfl, h0, r0⟩ := trodAll_cons hA
  obtain ⟨v1, vs1, d1, ds1, p1, q1, rfl, rfl, rfl, h1, r1⟩ := trodAll_cons r0
  obtain ⟨rfl, rfl, rfl⟩ := trodAll_nil r1
  obtain rfl : args = #[v0, v1] := by cases args; simp_all
  obtain ⟨rfl, rfl⟩ := trodVars_none hV
  have k0 := h0
  have lt0 : ∀ x ∈ p0, x.block < W.heap.size := by obtain ⟨m, hm⟩ := k0; exact DataW.trod_lt m _ _ _ hm
  have sz0 : (d0.weights Try.prog 23).all (· ≤ reachBytes) = true := List.all_eq_true.2 fun m hm => List.all_eq_true.1 hsz m (DataW.weights_mem_each (j := 0) rfl rfl m hm)
  obtain ⟨q0, rfl, w0⟩ : ∃ q, v0 = .agg ((fun q : Int × Int × Int × Int × Int => [.int .i64 q.1, .int .i64 q.2.1, .int .i64 q.2.2.1, .int .i64 q.2.2.2.1, .int .i64 q.2.2.2.2]) q).toArray ∧ (fun q => (Lit.int .i64 q.1).wf = true ∧ (Lit.int .i64 q.2.1).wf = true ∧ (Lit.int .i64 q.2.2.1).wf = true ∧ (Lit.int .i64 q.2.2.2.1).wf = true ∧ (Lit.int .i64 q.2.2.2.2).wf = true) q := by
    obtain ⟨fuel, hf⟩ := h0
    exact Ag.one_arg kd23 Try.underlying23 (hval 0 23 v0 rfl rfl) hf sz0
  obtain ⟨a1, len1, cap1, rfl⟩ := okWide_slice Try.underlying36 (hval 1 36 v1 rfl rfl)
  have k1 := h1
  have lt1 : ∀ x ∈ p1, x.block < W.heap.size := by obtain ⟨m, hm⟩ := k1; exact DataW.trod_lt m _ _ _ hm
  have sz1 : (d1.weights Try.prog 36).all (· ≤ reachBytes) = true := List.all_eq_true.2 fun m hm => List.all_eq_true.1 hsz m (DataW.weights_mem_each (j := 1) rfl rfl m hm)
  obtain ⟨z1, w1, s1⟩ : ∃ zs, Ag.Rows (fun q : Int × Int × Bool × Bool => [.int .i64 q.1, .int .i64 q.2.1, .bool q.2.2.1, .bool q.2.2.2]) (fun q => (Lit.int .i64 q.1).wf = true ∧ (Lit.int .i64 q.2.1).wf = true) 4 W a1 len1 zs ∧ len1 ≤ cap1 ∧ cap1 * Try.prog.bytesOf 38 ≤ 140737488351232 ∧ (a1 = none → len1 = 0 ∧ cap1 = 0) := by
    obtain ⟨fuel, hf⟩ := h1
    exact Ag.rows_arg kd38 Try.underlying36 (Nat.le_of_ble_eq_true (by kernel_rfl)) hf sz1
  clear hA0 hsz0 hsz
  refine (walk q0 a1 len1 cap1 z1 W w0 w1 s1).mono fun e W' ⟨he, bel⟩ => ?_
  subst he
  exact ⟨_, rfl, _, _, _, [], _, [], hW', trodAll_mk1 (shut_bool Try.underlying4 _), (trodAll_cons_mk (Below.trod laidOut (by kernel_rfl) (of_decide_eq_true (by kernel_rfl)) k0 bel lt0) (trodAll_cons_mk (Below.trod laidOut (by kernel_rfl) (of_decide_eq_true (by kernel_rfl)) k1 bel lt1) trodAll_mk0)), rfl, bel.frame _, fun h => by cases h⟩

noncomputable def laidWorld (os : Os) : World :=
  World.holding Try.prog os ⟨#[], #[], []⟩
theorem laid_met (os : Os) : laidMet Try.prog Rows.cwndStaysRow.laid ((laidWorld os).forCall (fun _ _ => 0) ⟨#[], #[.agg #[.int .i64 0, .int .i64 0, .int .i64 0, .int .i64 0, .int .i64 0], .slice none 0 0], []⟩).memory :=
  laidMet_of_run' 8 (by kernel_rfl) (by kernel_rfl)
theorem reads (os : Os) {H : Type} (enc : TypeId × Value → H) : ∃ places, DataW.whole enc Try.prog ((laidWorld os).forCall (fun _ _ => 0) ⟨#[], #[.agg #[.int .i64 0, .int .i64 0, .int .i64 0, .int .i64 0, .int .i64 0], .slice none 0 0], []⟩).memory Try.f6.params.toList Rows.cwndStaysSpec.vars false #[Value.agg #[.int .i64 0, .int .i64 0, .int .i64 0, .int .i64 0, .int .i64 0], Value.slice none 0 0].toList 8 = some ([.agg [.lit (.int .i64 0), .lit (.int .i64 0), .lit (.int .i64 0), .lit (.int .i64 0), .lit (.int .i64 0)], .nil], [], places) :=
  ⟨[], by kernel_rfl⟩

set_option maxRecDepth 100000 in
theorem lifted (os : Os) (started : os.Started) (H : Type) (enc : TypeId × Value → H) (F : Stop.Interp) :
    ReturnsInHanded {} Try.checked os 6 .any ((OpenSpec.ofChange Rows.cwndStaysSpec).preRow enc Try.prog Try.f6 Rows.cwndStaysRow.domain false Rows.cwndStaysRow.laid) (((OpenSpec.ofChange Rows.cwndStaysSpec).at F).post enc Try.prog Try.f6 false true false false) := by
  obtain ⟨places, hx⟩ := reads os enc
  refine returnsInHanded_of_row (C := Try.checked) (s := OpenSpec.ofChange Rows.cwndStaysSpec) own started (by kernel_rfl) Try.func6
    (witness_row_at (enc := enc) (C := Try.checked) false (laidWorld os) #[.agg #[.int .i64 0, .int .i64 0, .int .i64 0, .int .i64 0, .int .i64 0], .slice none 0 0] rfl (by kernel_rfl) (by kernel_rfl) (by kernel_rfl)
      (OpenSpec.preRow_of_cond 8 hx (by kernel_rfl) (fun k hk => by cases hk) (by kernel_rfl) (laid_met os))) ?_
  intro W base args ds gs before hval hW _ hcond hsz hL _ _
  exact contract H enc W base args ds gs before hval hW hsz

theorem said : Rows.CwndStaysSaid :=
  OpenClaim.holds_of_cond 6 Try.f6 rfl rfl rfl rfl rfl rfl rfl ⟨rfl, rfl, rfl, rfl, rfl⟩ rfl rfl rfl rfl rfl (by kernel_rfl) Try.func6 (by kernel_rfl)
    (of_decide_eq_true (by kernel_rfl)) (by unfold Func.isWrapper; first | (rw [if_pos (by decide +kernel)]; kernel_rfl) | (rw [if_neg (by decide +kernel)]; exact ⟨rfl, rfl⟩))
    (fun os started H enc _ F => by rw [OpenClaim.pre_eq_preRow]; exact lifted os started H enc F)

/-- THE STATEMENT -/
theorem proved : Rows.CwndStaysSaid := said
#print axioms proved
end Go.Proofs.Ytaaghlgleofcgaa.cwndStays
