/-
  What TimersOnce says of every run of operations is true: what is set is told once, not ahead of its time (rules 3 and 6). Conditions: none.
-/
import Derived.Test.YtinhhfnknlmdgaaRows
import Derived.WalkKit
import Derived.ProofKit
import Derived.OpenShut
import Derived.ShutString
import Derived.ChangeOld
import Derived.Below
import Derived.SizedLaws
import Derived.Deep.DeepHandedRow
import Derived.LaidLaws
import Derived.ChangeMaps5
import Derived.Test.YtinhhfnknlmdgaaTmV
import Derived.Test.YtinhhfnknlmdgaaAg
namespace Go.Proofs.Ytinhhfnknlmdgaa.timersOnce
open Go.ChangeShapes Go.WideShapes Go.ChangeAt Go.RowKit
open Go.ChangeMaps (open_string shut_string)
set_option linter.unusedVariables false

theorem own : ownKnob Try.prog.godebug = none := by kernel_rfl
theorem laidOut : laidOutB Try.prog = true := by kernel_rfl

open Ba (hidden Has Only In)
theorem ix_l {b off n cap : Nat} {q : Int} (h0 : 0 ≤ q) (h1 : q < (n : Int)) (w : World) : (Instr.indexAt 22 (.slice (some ⟨b, off, none⟩) n cap) (.int .i64 q)).run Try.prog w = .ok (.pointer (some ⟨b, off + q.toNat * 3, none⟩)) w := by
  go_simp
theorem ix_m (m : Nat) (x : Int) (w : World) (h : 0 ≤ x ∧ x < 4096) : (Instr.indexAt 34 (.slice (some ⟨m, 0, none⟩) 4096 4096) (.int .i64 x)).run Try.prog w = .ok (.pointer (some ⟨m, x.toNat, none⟩)) w := by
  obtain ⟨h0, h1⟩ := h
  go_simp
theorem st_m {m k : Nat} {v y : Int} {w : World} (h : w.cell? ⟨m, k, none⟩ = some (.int .i64 y) ∧ w.frozen? ⟨m, k, none⟩ = false) : (Instr.storeAt 3 (.pointer (some ⟨m, k, none⟩)) (.int .i64 v)).run Try.prog w = .ok () (w.setCell ⟨m, k, none⟩ (.int .i64 v)) := by
  obtain ⟨h0, h1⟩ := h
  go_simp
/-- the table and the row as they begin -/
theorem on_new {w w1 w2 W : World} {t : Nat} {F : List Nat} (hT : Tm.Tb w1 t [] 0 F) (hF : ∀ k ∈ F, w.heap.size ≤ k) (hB : Below w.heap.size w w1) (hB2 : Below w1.heap.size w1 w2) (hE : Tm.Edg W w2.heap.size (fun _ => 0)) (hBW : Below w2.heap.size w2 W) :
    Tm.On W (w2.heap.size :: F) W t w2.heap.size [] 0 (fun _ => 0) ∧ (∀ k ∈ w2.heap.size :: F, w.heap.size ≤ k) ∧ Below w.heap.size w W := by
  have h2 := hT.later hB2
  refine ⟨⟨F, h2.later hBW, hE, fun hm => ?_, Only.refl _ _, In.refl _ _⟩, fun k hk => ?_, (hB.trans (hB2.mono hB.size)).trans (hBW.mono (Nat.le_trans hB.size hB2.size))⟩
  · have := h2.lt _ hm
    omega
  · rcases List.mem_cons.1 hk with rfl | hk
    · exact Nat.le_trans hB.size hB2.size
    · exact hF k hk
set_option maxHeartbeats 4000000 in
set_option maxRecDepth 20000 in

theorem walk (a0 : Option Addr) (len0 cap0 : Nat) (z0 : List (Int × Int × Int)) (w : World) (w0 : Ag.Rows (fun q : Int × Int × Int => [.int .i64 q.1, .int .i64 q.2.1, .int .i64 q.2.2]) (fun q => (Lit.int .i64 q.1).wf = true ∧ (Lit.int .i64 q.2.1).wf = true ∧ (Lit.int .i64 q.2.2).wf = true) 3 w a0 len0 z0) (s0 : len0 ≤ cap0 ∧ cap0 * Try.prog.bytesOf 32 ≤ 140737488351232 ∧ (a0 = none → len0 = 0 ∧ cap0 = 0)) :
    Calls Try.prog 4 #[.slice a0 len0 cap0] w fun e w' => e = .returned (.bool true) ∧ Below w.heap.size w w' := by
  have AW := hidden Tm.awake
  have HN := hidden (Tm.new w)
  have HZ := hidden w0
  have hlen : len0 ≤ 140737488355328 := w0.2.2.1
  obtain ⟨mk, hmk, hmkE, hmkB⟩ := Tm.make_any
  have HME := hidden hmkE
  have HMB := hidden hmkB
  have HMK := hidden hmk
  clear w0 s0 hmkE hmkB hmk
  have E1 : Hid (∀ (args : Array Value) (w : World), (callFunc 10 args).run Try.prog w = .ok (.enter 10 args) w) := enters_of Try.func10 (by kernel_rfl) rfl
  have EI : Hid (∀ (args : Array Value) (w : World), (callFunc 11 args).run Try.prog w = .ok (.enter 11 args) w) := enters_of Try.func11 (by kernel_rfl) rfl
  go_enter Try.func4, Try.ntmps4
  go_wp2_with fail
  refine Calls.mono HN.out ?_
  rintro e w1 ⟨t, F, rfl, hT, hF, hB⟩
  have HT := hidden hT
  have HF := hidden hF
  have HB := hidden hB
  clear hT hF hB HN
  go_wp2_with fail
  refine Calls.mono (AW.out _) ?_
  rintro e w2 ⟨rfl, hB2⟩
  obtain ⟨g1, g2, g3⟩ := on_new HT.out HF.out HB.out hB2 (HME.out w2) (HMB.out w2)
  have hmk := HMK.out w2
  obtain ⟨W, hW⟩ : ∃ W, W = mk w2 := ⟨_, rfl⟩
  obtain ⟨F0, hF0⟩ : ∃ F0, F0 = w2.heap.size :: F := ⟨_, rfl⟩
  rw [← hF0] at g1 g2
  rw [← hW] at g1 g3 hmk
  obtain ⟨m, hm⟩ : ∃ m, m = w2.heap.size := ⟨_, rfl⟩
  rw [← hm] at g1 hmk
  have HP := hidden g1
  have HBL : Hid (∀ {S : List Tm.D} {l : Int} {f : Nat → Int} (x : World), Tm.On W F0 x t m S l f → Below w.heap.size w x) := fun x hx => hx.below g2 g3
  clear g1 g2 g3 hW hF0 hm HME HMB HMK HT HF HB hB2 AW
  go_wp2_with fail
  clear hmk
  go_loopw [27] (fun i wr => ∃ (q : Int) (f : Nat → Int), 0 ≤ q ∧ q ≤ 4096 ∧ i = .int .i64 q ∧ Hid (Tm.On W F0 wr t m [] 0 f) ∧ Hid (∀ k : Nat, (k : Int) < q → f k = -1)) (fun i _ => 4096 - (intOf i).toNat)
  case atStart => exact ⟨0, _, by omega, by omega, rfl, HP.out, fun k hk => by omega⟩
  case round =>
    obtain ⟨q, f, j1, j2, rfl, HQ, HV⟩ := hrel
    by_cases hq : q < 4096
    · obtain ⟨c0, c1⟩ := HQ.out.cell (k := q.toNat) (by omega)
      have HQ9 := hidden (HQ.out.put q.toNat (-1))
      have HV9 : Hid (∀ k : Nat, (k : Int) < q + 1 → Tm.pat f q.toNat (-1) k = -1) := fun k hk => by
        unfold Tm.pat
        split
        · rfl
        · exact HV.out k (by omega)
      go_wp2
      go_roundw
      case rel => exact ⟨_, _, by omega, by omega, rfl, HQ9.out, HV9.out⟩
      case measure => simp [intOf]; omega
    · have HV1 : Hid (Tm.Vl [] f) := Tm.Vl.nil fun k hk => HV.out k (by omega)
      clear HV HP
      go_wp2_with fail
      go_loopw [6] (fun i wr => ∃ (q : Int) (S : List Tm.D) (l : Int) (f : Nat → Int), 0 ≤ q ∧ q ≤ (len0 : Int) ∧ i = .int .i64 q ∧ Hid (Tm.On W F0 wr t m S l f) ∧ Hid (Tm.Vl S f)) (fun i _ => len0 - (intOf i).toNat)
      case atStart => exact ⟨0, _, _, _, by omega, by omega, rfl, HQ.out, HV1.out⟩
      case round =>
        clear HQ HV1 j1 j2 hq
        obtain ⟨q, S, l, f, j1, j2, rfl, HQ, HV⟩ := hrel
        by_cases hq : q < (len0 : Int)
        · obtain ⟨z, hz⟩ : ∃ z, z0[q.toNat]? = some z := ⟨_, List.getElem?_eq_getElem (by have := HZ.out.1; omega)⟩
          obtain ⟨kI, id, tm⟩ := z
          have hok := HZ.out.2.1 _ (List.mem_of_getElem? hz)
          obtain ⟨b, off, rfl, hbw, hc⟩ : ∃ b off, a0 = some ⟨b, off, none⟩ ∧ b < w.heap.size ∧ (∀ j z, z0[j]? = some z → ∀ c u, ((fun q : Int × Int × Int => [Value.int .i64 q.1, .int .i64 q.2.1, .int .i64 q.2.2]) z)[c]? = some u → w.cell? ⟨b, off + j * 3 + c, none⟩ = some u) := by
            rcases HZ.out.2.2.2 with h4 | h4
            · omega
            · exact h4
          have HCB : Hid (∀ (x : World), Below w.heap.size w x → x.cell? ⟨b, off + q.toNat * 3, none⟩ = some (.int .i64 kI) ∧ x.cell? ⟨b, off + q.toNat * 3 + 1, none⟩ = some (.int .i64 id) ∧ x.cell? ⟨b, off + q.toNat * 3 + 2, none⟩ = some (.int .i64 tm)) := fun x hx => ⟨(hx.cell (p := ⟨b, off + q.toNat * 3, none⟩) hbw).trans (hc _ _ hz 0 _ rfl), (hx.cell (p := ⟨b, off + q.toNat * 3 + 1, none⟩) hbw).trans (hc _ _ hz 1 _ rfl), (hx.cell (p := ⟨b, off + q.toNat * 3 + 2, none⟩) hbw).trans (hc _ _ hz 2 _ rfl)⟩
          have HCL : Hid (∀ {S : List Tm.D} {l : Int} {f : Nat → Int} (x : World), Tm.On W F0 x t m S l f → x.cell? ⟨b, off + q.toNat * 3, none⟩ = some (.int .i64 kI) ∧ x.cell? ⟨b, off + q.toNat * 3 + 1, none⟩ = some (.int .i64 id) ∧ x.cell? ⟨b, off + q.toNat * 3 + 2, none⟩ = some (.int .i64 tm)) := fun x hx => HCB.out _ (HBL.out _ hx)
          have IXL : Hid (∀ x : World, (Instr.indexAt 22 (.slice (some ⟨b, off, none⟩) len0 cap0) (.int .i64 q)).run Try.prog x = .ok (.pointer (some ⟨b, off + q.toNat * 3, none⟩)) x) := fun x => ix_l j1 hq x
          have IXM : Hid (∀ (x : Int) (w : World), 0 ≤ x ∧ x < 4096 → (Instr.indexAt 34 (.slice (some ⟨m, 0, none⟩) 4096 4096) (.int .i64 x)).run Try.prog w = .ok (.pointer (some ⟨m, x.toNat, none⟩)) w) := fun x w h => ix_m m x w h
          have STM : Hid (∀ (k : Nat) (v : Int) (w : World) {y : Int}, w.cell? ⟨m, k, none⟩ = some (.int .i64 y) ∧ w.frozen? ⟨m, k, none⟩ = false → (Instr.storeAt 3 (.pointer (some ⟨m, k, none⟩)) (.int .i64 v)).run Try.prog w = .ok () (w.setCell ⟨m, k, none⟩ (.int .i64 v))) := fun k v w y h => st_m h
          have HOK := hidden hok
          obtain ⟨c0, c1, c2⟩ := HCL.out _ HQ.out
          clear hz hc hbw hok
          by_cases hk1 : kI = 1
          · subst hk1
            clear c1 c2
            go_upto_region 15 with fail
            refine Ord.wp_region_ex0 (X := Unit) (by kernel_rfl) 189 (fun x => [(some 47, .pointer (some ⟨t, 0, none⟩)), (some 48, .slice (some ⟨b, off, none⟩) len0 cap0), (some 49, .int .i64 q), (some 50, .pointer (some ⟨b, off + q.toNat * 3, none⟩)), (some 51, .pointer (some ⟨b, off + q.toNat * 3 + 1, none⟩)), (some 52, .int .i64 id), (some 53, .slice (some ⟨b, off, none⟩) len0 cap0), (some 54, .int .i64 q), (some 55, .pointer (some ⟨b, off + q.toNat * 3, none⟩)), (some 56, .pointer (some ⟨b, off + q.toNat * 3 + 2, none⟩)), (some 57, .int .i64 tm), (some 58, .int .i64 (Tm.setE id tm)), (some 59, .bool (Tm.setE id tm == 0))]) [some 47, some 48, some 49, some 50, some 51, some 52, some 53, some 54, some 55, some 56, some 57, some 58, some 59] rfl (fun listed hsz hr => Ord.all_listedC (rank := [0, 1, 2, 3, 4, 5, 6, 7, 8, 9, 10, 11, 12]) (by kernel_rfl) hsz hr) (by rfl) (fun _ => rfl) (by kernel_rfl) (Rg.StM [11] (fun k _ w' => (k = 0 → Tm.On W F0 w' t m S l f) ∧ (1 ≤ k → Tm.On W F0 w' t m (Tm.setS id tm S) l f))) (fun _ _ _ _ hL h => h.ext (n := 13) (by decide) hL) ?_ ?_ () ?_
            case refine_1 =>
              intro x Lq iq oq ac w' ho hi hcl hdep hF hW
              have f1 : ac.tmps.size = 189 := hF.1
              match iq, ho, hi, hdep with
              | 0, ho, hi, hdep =>
                cases ho
                have da0 : ac.eval (.tmp 3) = .pointer (some ⟨t, 0, none⟩) := hF.old 3 rfl
                exact Ord.ex_value x rfl rfl (Rg.mv da0 rfl) rfl (hW.keep (by decide))
              | 1, ho, hi, hdep =>
                cases ho
                have da0 : ac.eval (.tmp 0) = .slice (some ⟨b, off, none⟩) len0 cap0 := hF.old 0 rfl
                exact Ord.ex_value x rfl rfl (Rg.mv da0 rfl) rfl (hW.keep (by decide))
              | 2, ho, hi, hdep =>
                cases ho
                have da0 : ac.eval (.tmp 6) = .int .i64 q := hF.old 6 rfl
                exact Ord.ex_value x rfl rfl (Rg.mv da0 rfl) rfl (hW.keep (by decide))
              | 3, ho, hi, hdep =>
                cases ho
                have da0 : ac.eval (.tmp 48) = .slice (some ⟨b, off, none⟩) len0 cap0 := hF.2.2.2 1 48 _ rfl (hdep ⟨1, .data⟩ (by simp) rfl)
                have da1 : ac.eval (.tmp 49) = .int .i64 q := hF.2.2.2 2 49 _ rfl (hdep ⟨2, .data⟩ (by simp) rfl)
                exact Ord.ex_value x rfl rfl (Rg.ix da0 da1 rfl (IXL.out _)) rfl (hW.keep (by decide))
              | 4, ho, hi, hdep =>
                cases ho
                have da0 : ac.eval (.tmp 50) = .pointer (some ⟨b, off + q.toNat * 3, none⟩) := hF.2.2.2 3 50 _ rfl (hdep ⟨3, .data⟩ (by simp) rfl)
                exact Ord.ex_value x rfl rfl (Rg.fa da0 rfl (by simp [go_sem])) rfl (hW.keep (by decide))
              | 5, ho, hi, hdep =>
                cases ho
                have da0 : ac.eval (.tmp 51) = .pointer (some ⟨b, off + q.toNat * 3 + 1, none⟩) := hF.2.2.2 4 51 _ rfl (hdep ⟨4, .data⟩ (by simp) rfl)
                obtain ⟨kq, hlo, hhi, hA⟩ := hW.range 0 0 (.inl rfl) (.inr ⟨11, rfl, (Rg.no_of (fun h => hcl 11 _ rfl (h) ⟨5, .data⟩ (by simp) rfl) hi)⟩)
                exact Ord.ex_value x rfl rfl (Rg.load da0 rfl (by simp [go_sem, (HCL.out _ (hA.1 (by omega))).2.1])) rfl (hW.keep (by decide))
              | 6, ho, hi, hdep =>
                cases ho
                have da0 : ac.eval (.tmp 0) = .slice (some ⟨b, off, none⟩) len0 cap0 := hF.old 0 rfl
                exact Ord.ex_value x rfl rfl (Rg.mv da0 rfl) rfl (hW.keep (by decide))
              | 7, ho, hi, hdep =>
                cases ho
                have da0 : ac.eval (.tmp 6) = .int .i64 q := hF.old 6 rfl
                exact Ord.ex_value x rfl rfl (Rg.mv da0 rfl) rfl (hW.keep (by decide))
              | 8, ho, hi, hdep =>
                cases ho
                have da0 : ac.eval (.tmp 53) = .slice (some ⟨b, off, none⟩) len0 cap0 := hF.2.2.2 6 53 _ rfl (hdep ⟨6, .data⟩ (by simp) rfl)
                have da1 : ac.eval (.tmp 54) = .int .i64 q := hF.2.2.2 7 54 _ rfl (hdep ⟨7, .data⟩ (by simp) rfl)
                exact Ord.ex_value x rfl rfl (Rg.ix da0 da1 rfl (IXL.out _)) rfl (hW.keep (by decide))
              | 9, ho, hi, hdep =>
                cases ho
                have da0 : ac.eval (.tmp 55) = .pointer (some ⟨b, off + q.toNat * 3, none⟩) := hF.2.2.2 8 55 _ rfl (hdep ⟨8, .data⟩ (by simp) rfl)
                exact Ord.ex_value x rfl rfl (Rg.fa da0 rfl (by simp [go_sem])) rfl (hW.keep (by decide))
              | 10, ho, hi, hdep =>
                cases ho
                have da0 : ac.eval (.tmp 56) = .pointer (some ⟨b, off + q.toNat * 3 + 2, none⟩) := hF.2.2.2 9 56 _ rfl (hdep ⟨9, .data⟩ (by simp) rfl)
                obtain ⟨kq, hlo, hhi, hA⟩ := hW.range 0 0 (.inl rfl) (.inr ⟨11, rfl, (Rg.no_of (fun h => hcl 11 _ rfl (h) ⟨10, .data⟩ (by simp) rfl) hi)⟩)
                exact Ord.ex_value x rfl rfl (Rg.load da0 rfl (by simp [go_sem, (HCL.out _ (hA.1 (by omega))).2.2])) rfl (hW.keep (by decide))
              | 11, ho, hi, hdep =>
                cases ho
                have da0 : ac.eval (.tmp 47) = .pointer (some ⟨t, 0, none⟩) := hF.2.2.2 0 47 _ rfl (hdep ⟨0, .data⟩ (by simp) rfl)
                have da1 : ac.eval (.tmp 52) = .int .i64 id := hF.2.2.2 5 52 _ rfl (hdep ⟨5, .data⟩ (by simp) rfl)
                have da2 : ac.eval (.tmp 57) = .int .i64 tm := hF.2.2.2 10 57 _ rfl (hdep ⟨10, .data⟩ (by simp) rfl)
                have hA := hW.at (k := 0) rfl hi (.inl rfl)
                exact Rg.ex_call x rfl rfl (Rg.enter (args := #[.pointer (some ⟨t, 0, none⟩), .int .i64 id, .int .i64 tm]) rfl rfl (by simp [da0, da1, da2]) E1.out) (Calls.mono ((hA.1 rfl).set id tm) (by rintro e w2 ⟨rfl, hP⟩; exact ⟨rfl, hW.next (k := 0) rfl (by decide) hi (.inl rfl) ⟨fun e => absurd e (by decide), fun _ => hP⟩⟩))
              | 12, ho, hi, hdep =>
                cases ho
                have da0 : ac.eval (.tmp 58) = .int .i64 (Tm.setE id tm) := hF.2.2.2 11 58 _ rfl (hdep ⟨11, .data⟩ (by simp) rfl)
                exact Ord.ex_value x rfl rfl (Rg.bin da0 rfl rfl (by simp [go_sem])) rfl (hW.keep (by decide))
            case refine_3 => exact Rg.StM.first ⟨fun _ => HQ.out.later (Below.refl _ wr).drew, fun e => absurd e (by decide)⟩
            case refine_2 =>
              intro xx x2 hW
              have HP2 := hidden (hW.last.2 (by decide))
              clear hW c0
              simp only [Ord.puts, Ord.prs]
              go_simp
              by_cases hs : Tm.setE id tm = 0
              · have hit : Tm.okId id = true ∧ Tm.okTime tm = true := by
                  unfold Tm.setE at hs
                  split at hs
                  · rename_i h
                    split at hs
                    · rename_i h2; exact ⟨h, h2⟩
                    · omega
                  · omega
                have HIT := hidden hit
                have HI := hidden (show 0 ≤ id ∧ id < 4096 by have := hit.1; unfold Tm.okId at this; simpa using this)
                have R1 := hidden (Tm.rID id)
                rw [hit.1] at R1
                obtain ⟨d0, d1, d2⟩ := HCL.out _ HP2.out
                obtain ⟨S2, hS2⟩ : ∃ S2, S2 = Tm.setS id tm S := ⟨_, rfl⟩
                rw [← hS2] at HP2
                have HV9 := hidden (HV.out.set hit.1 hit.2)
                rw [← hS2] at HV9
                clear hit d0 d2 hS2
                rw [hs]
                go_wp2_with fail
                refine Calls.mono (R1.out _) ?_
                rintro e x3 ⟨rfl, rfl⟩
                clear d1
                go_upto_region 18 with fail
                refine Ord.wp_region_ex0 (X := Unit) (by kernel_rfl) 189 (fun x => [(some 67, .slice (some ⟨m, 0, none⟩) 4096 4096), (some 68, .slice (some ⟨b, off, none⟩) len0 cap0), (some 69, .int .i64 q), (some 70, .pointer (some ⟨b, off + q.toNat * 3, none⟩)), (some 71, .pointer (some ⟨b, off + q.toNat * 3 + 1, none⟩)), (some 72, .int .i64 id), (some 73, .slice (some ⟨b, off, none⟩) len0 cap0), (some 74, .int .i64 q), (some 75, .pointer (some ⟨b, off + q.toNat * 3, none⟩)), (some 76, .pointer (some ⟨b, off + q.toNat * 3 + 2, none⟩)), (some 77, .int .i64 tm), (some 78, .pointer (some ⟨m, id.toNat, none⟩)), (none, undef)]) [some 67, some 68, some 69, some 70, some 71, some 72, some 73, some 74, some 75, some 76, some 77, some 78, none] rfl (fun listed hsz hr => Ord.all_listedC (rank := [0, 1, 2, 3, 4, 5, 6, 7, 8, 9, 10, 11, 12]) (by kernel_rfl) hsz hr) (by rfl) (fun _ => rfl) (by kernel_rfl) (Rg.StM [12] (fun k _ w' => (k = 0 → Tm.On W F0 w' t m S2 l f) ∧ (1 ≤ k → Tm.On W F0 w' t m S2 l (Tm.pat f id.toNat tm)))) (fun _ _ _ _ hL h => h.ext (n := 13) (by decide) hL) ?_ ?_ () ?_
                case refine_1 =>
                  intro x Lq iq oq ac w' ho hi hcl hdep hF hW
                  have f1 : ac.tmps.size = 189 := hF.1
                  match iq, ho, hi, hdep with
                  | 0, ho, hi, hdep =>
                    cases ho
                    have da0 : ac.eval (.tmp 4) = .slice (some ⟨m, 0, none⟩) 4096 4096 := hF.old 4 rfl
                    exact Ord.ex_value x rfl rfl (Rg.mv da0 rfl) rfl (hW.keep (by decide))
                  | 1, ho, hi, hdep =>
                    cases ho
                    have da0 : ac.eval (.tmp 0) = .slice (some ⟨b, off, none⟩) len0 cap0 := hF.old 0 rfl
                    exact Ord.ex_value x rfl rfl (Rg.mv da0 rfl) rfl (hW.keep (by decide))
                  | 2, ho, hi, hdep =>
                    cases ho
                    have da0 : ac.eval (.tmp 6) = .int .i64 q := hF.old 6 rfl
                    exact Ord.ex_value x rfl rfl (Rg.mv da0 rfl) rfl (hW.keep (by decide))
                  | 3, ho, hi, hdep =>
                    cases ho
                    have da0 : ac.eval (.tmp 68) = .slice (some ⟨b, off, none⟩) len0 cap0 := hF.2.2.2 1 68 _ rfl (hdep ⟨1, .data⟩ (by simp) rfl)
                    have da1 : ac.eval (.tmp 69) = .int .i64 q := hF.2.2.2 2 69 _ rfl (hdep ⟨2, .data⟩ (by simp) rfl)
                    exact Ord.ex_value x rfl rfl (Rg.ix da0 da1 rfl (IXL.out _)) rfl (hW.keep (by decide))
                  | 4, ho, hi, hdep =>
                    cases ho
                    have da0 : ac.eval (.tmp 70) = .pointer (some ⟨b, off + q.toNat * 3, none⟩) := hF.2.2.2 3 70 _ rfl (hdep ⟨3, .data⟩ (by simp) rfl)
                    exact Ord.ex_value x rfl rfl (Rg.fa da0 rfl (by simp [go_sem])) rfl (hW.keep (by decide))
                  | 5, ho, hi, hdep =>
                    cases ho
                    have da0 : ac.eval (.tmp 71) = .pointer (some ⟨b, off + q.toNat * 3 + 1, none⟩) := hF.2.2.2 4 71 _ rfl (hdep ⟨4, .data⟩ (by simp) rfl)
                    obtain ⟨kq, hlo, hhi, hA⟩ := hW.range 0 0 (.inl rfl) (.inr ⟨12, rfl, (Rg.no_of (fun h => hcl 12 _ rfl (h) ⟨5, .phase⟩ (by simp) rfl) hi)⟩)
                    exact Ord.ex_value x rfl rfl (Rg.load da0 rfl (by simp [go_sem, (HCL.out _ (hA.1 (by omega))).2.1])) rfl (hW.keep (by decide))
                  | 6, ho, hi, hdep =>
                    cases ho
                    have da0 : ac.eval (.tmp 0) = .slice (some ⟨b, off, none⟩) len0 cap0 := hF.old 0 rfl
                    exact Ord.ex_value x rfl rfl (Rg.mv da0 rfl) rfl (hW.keep (by decide))
                  | 7, ho, hi, hdep =>
                    cases ho
                    have da0 : ac.eval (.tmp 6) = .int .i64 q := hF.old 6 rfl
                    exact Ord.ex_value x rfl rfl (Rg.mv da0 rfl) rfl (hW.keep (by decide))
                  | 8, ho, hi, hdep =>
                    cases ho
                    have da0 : ac.eval (.tmp 73) = .slice (some ⟨b, off, none⟩) len0 cap0 := hF.2.2.2 6 73 _ rfl (hdep ⟨6, .data⟩ (by simp) rfl)
                    have da1 : ac.eval (.tmp 74) = .int .i64 q := hF.2.2.2 7 74 _ rfl (hdep ⟨7, .data⟩ (by simp) rfl)
                    exact Ord.ex_value x rfl rfl (Rg.ix da0 da1 rfl (IXL.out _)) rfl (hW.keep (by decide))
                  | 9, ho, hi, hdep =>
                    cases ho
                    have da0 : ac.eval (.tmp 75) = .pointer (some ⟨b, off + q.toNat * 3, none⟩) := hF.2.2.2 8 75 _ rfl (hdep ⟨8, .data⟩ (by simp) rfl)
                    exact Ord.ex_value x rfl rfl (Rg.fa da0 rfl (by simp [go_sem])) rfl (hW.keep (by decide))
                  | 10, ho, hi, hdep =>
                    cases ho
                    have da0 : ac.eval (.tmp 76) = .pointer (some ⟨b, off + q.toNat * 3 + 2, none⟩) := hF.2.2.2 9 76 _ rfl (hdep ⟨9, .data⟩ (by simp) rfl)
                    obtain ⟨kq, hlo, hhi, hA⟩ := hW.range 0 0 (.inl rfl) (.inr ⟨12, rfl, (Rg.no_of (fun h => hcl 12 _ rfl (h) ⟨10, .data⟩ (by simp) rfl) hi)⟩)
                    exact Ord.ex_value x rfl rfl (Rg.load da0 rfl (by simp [go_sem, (HCL.out _ (hA.1 (by omega))).2.2])) rfl (hW.keep (by decide))
                  | 11, ho, hi, hdep =>
                    cases ho
                    have da0 : ac.eval (.tmp 67) = .slice (some ⟨m, 0, none⟩) 4096 4096 := hF.2.2.2 0 67 _ rfl (hdep ⟨0, .data⟩ (by simp) rfl)
                    have da1 : ac.eval (.tmp 72) = .int .i64 id := hF.2.2.2 5 72 _ rfl (hdep ⟨5, .data⟩ (by simp) rfl)
                    exact Ord.ex_value x rfl rfl (Rg.ix da0 da1 rfl (IXM.out _ _ HI.out)) rfl (hW.keep (by decide))
                  | 12, ho, hi, hdep =>
                    cases ho
                    have da0 : ac.eval (.tmp 78) = .pointer (some ⟨m, id.toNat, none⟩) := hF.2.2.2 11 78 _ rfl (hdep ⟨11, .data⟩ (by simp) rfl)
                    have da1 : ac.eval (.tmp 77) = .int .i64 tm := hF.2.2.2 10 77 _ rfl (hdep ⟨10, .data⟩ (by simp) rfl)
                    have hA := hW.at (k := 0) rfl hi (.inl rfl)
                    exact Rg.ex_skip x rfl rfl (Rg.sto da0 da1 rfl (STM.out _ _ _ ((hA.1 rfl).cell (by have := HI.out; omega)))) rfl (hW.next (k := 0) rfl (by decide) hi (.inl rfl) ⟨fun e => absurd e (by decide), fun _ => (hA.1 rfl).put id.toNat tm⟩)
                case refine_3 => exact Rg.StM.first ⟨fun _ => HP2.out.later (Below.refl _ x2).drew, fun e => absurd e (by decide)⟩
                case refine_2 =>
                  intro yy x4 hW
                  have HQ9 := hidden (hW.last.2 (by decide))
                  clear hW
                  simp only [Ord.puts, Ord.prs]
                  go_simp
                  go_wp2
                  go_roundw
                  case rel => exact ⟨_, _, _, _, by omega, by omega, rfl, HQ9.out, HV9.out⟩
                  case measure => simp [intOf]; omega
              · have hbe : (Tm.setE id tm == 0) = false := beq_eq_false_iff_ne.2 hs
                have hSS : Tm.setS id tm S = S := by
                  unfold Tm.setS
                  rw [if_neg]
                  intro hh
                  simp only [Bool.and_eq_true] at hh
                  apply hs
                  unfold Tm.setE
                  rw [if_pos hh.1, if_pos hh.2]
                rw [hSS] at HP2
                have HQ9 := HP2
                have HV9 := HV
                clear hs hSS
                go_wp2
                go_roundw
                case rel => exact ⟨_, _, _, _, by omega, by omega, rfl, HQ9.out, HV9.out⟩
                case measure => simp [intOf]; omega
          · by_cases hk2 : kI = 2
            · subst hk2
              clear hk1
              go_wp2_with fail
              refine Calls.mono (HQ.out.stop id (Tm.of_wf64 HOK.out.2.1)) ?_
              rintro e x2 ⟨rfl, hP2⟩
              have HP2 := hidden hP2
              obtain ⟨d0, d1, d2⟩ := HCL.out _ hP2
              have R1 := hidden (Tm.rID id)
              clear hP2 c0 c1 c2 d0 d2
              generalize Tm.stopB id S = sb
              by_cases hs : Tm.okId id = true
              · have HV9 := hidden (HV.out.stop hs)
                have HI : 0 ≤ id ∧ id < 4096 := by have := hs; unfold Tm.okId at this; simpa using this
                obtain ⟨hi0, hi1⟩ := HI
                rw [show Tm.stopE id = 0 by unfold Tm.stopE; rw [if_pos hs]]
                rw [hs] at R1
                have HQ9 := hidden (HP2.out.put id.toNat (-1))
                obtain ⟨m0, m1⟩ := HP2.out.cell (k := id.toNat) (by omega)
                clear hs
                go_wp2_with fail
                refine Calls.mono (R1.out _) ?_
                rintro e x3 ⟨rfl, rfl⟩
                go_wp2
                go_roundw
                case rel => exact ⟨_, _, _, _, by omega, by omega, rfl, HQ9.out, HV9.out⟩
                case measure => simp [intOf]; omega
              · rw [show Tm.stopE id = 1 by unfold Tm.stopE; rw [if_neg hs]]
                rw [show Tm.stopS id S = S by unfold Tm.stopS; rw [if_neg hs]] at HP2
                have HQ9 := HP2
                have HV9 := HV
                clear hs
                go_wp2
                go_roundw
                case rel => exact ⟨_, _, _, _, by omega, by omega, rfl, HQ9.out, HV9.out⟩
                case measure => simp [intOf]; omega
            · by_cases hk3 : kI = 3
              · subst hk3
                clear hk1 hk2
                go_wp2_with fail
                refine Calls.mono (HQ.out.due tm) ?_
                rintro e x2 ⟨tv, rfl, hP2⟩
                obtain ⟨TT, hTT⟩ : ∃ TT, TT = Tm.dT tm l S := ⟨_, rfl⟩
                obtain ⟨RR, hRR⟩ : ∃ RR, RR = Tm.dS tm l S := ⟨_, rfl⟩
                have hTR : TT ++ RR = S := by rw [hTT, hRR]; exact Tm.dTS tm l S
                have hle : ∀ d ∈ TT, d.2 ≤ tm := by rw [hTT]; exact Tm.dT_le tm l S
                obtain ⟨hsd, hSk, hSn, hSl⟩ := HQ.out.ok
                rw [← hTT, ← hRR] at hP2
                have HSK := hidden hSk
                have HSN := hidden hSn
                have HTR := hidden hTR
                have HLE := hidden hle
                have HP2 := hidden hP2
                obtain ⟨ta, tcap, htv, hTl, _⟩ := hP2.row
                generalize Tm.dL tm l = l2 at HP2
                generalize Tm.dueE tm l = de
                subst htv
                clear hTT hRR hTR hle hP2 hsd hSk hSn hSl c0 c1 c2
                go_wp2_with fail
                go_loopw [11] (fun i wr => ∃ (j : Int) (f : Nat → Int), 0 ≤ j ∧ j ≤ (TT.length : Int) ∧ i = .int .i64 j ∧ Hid (Tm.OnT W F0 wr t m RR l2 f (.slice ta TT.length tcap) TT) ∧ Hid (Tm.Vl (S.drop j.toNat) f)) (fun i _ => TT.length - (intOf i).toNat)
                case atStart => exact ⟨0, f, by omega, by omega, rfl, HP2.out, HV.out⟩
                case round =>
                  clear HP2 HV HQ f
                  obtain ⟨j, f, i1, i2, rfl, HO, HV⟩ := hrel
                  by_cases hj : j < (TT.length : Int)
                  · obtain ⟨ta', tcap', he, _, hrow⟩ := HO.out.row
                    obtain ⟨g, hg, r0, r1⟩ := hrow j.toNat (by omega)
                    cases he
                    subst hg
                    obtain ⟨d, hd⟩ : ∃ d, d = Tm.at_ TT j.toNat := ⟨_, rfl⟩
                    rw [← hd] at r0 r1
                    have hdT : d ∈ TT := by rw [hd]; exact Tm.at_mem (by omega)
                    have hdS : d ∈ S := by rw [← HTR.out]; exact List.mem_append_left _ hdT
                    have hdk := HSK.out d hdS
                    have hdrop : S.drop j.toNat = d :: S.drop (j.toNat + 1) := by rw [← HTR.out, hd]; exact Tm.told_at (by omega)
                    have hnd : ((d :: S.drop (j.toNat + 1)).map (·.1)).Nodup := by
                      rw [← hdrop, List.map_drop]
                      exact HSN.out.sublist (List.drop_sublist _ _)
                    have hv := HV.out
                    rw [hdrop] at hv
                    have hfd := hv.head hnd hdk
                    have HV9 : Hid (Tm.Vl (S.drop (j + 1).toNat) (Tm.pat f d.1.toNat (-1))) := by
                      rw [show (j + 1).toNat = j.toNat + 1 by omega]
                      exact hv.tail hnd hdk
                    have hdt := HLE.out d hdT
                    clear hd hdT hdS hdrop hnd hv HV hrow
                    obtain ⟨x1, x2⟩ := d
                    obtain ⟨W3, hW3⟩ : ∃ W3, W3 = wr.alloc (.cells #[.int .i64 x1, .int .i64 x2] 43) := ⟨_, rfl⟩
                    have hBW3 : Below wr.heap.size wr W3 := by rw [hW3]; exact (Below.refl _ wr).alloc (Nat.le_refl _) _
                    have hbox : Has W3 wr.heap.size #[.int .i64 x1, .int .i64 x2] 43 := by rw [hW3]; exact Has.new wr _ _
                    have HO3 := hidden (HO.out.later hBW3)
                    have HX1 : Hid (0 ≤ x1 ∧ x1 < 4096) := hdk.1
                    have HX2 : Hid (x2 ≤ tm) := hdt
                    have ID1 := hidden (Tm.rID x1)
                    rw [show Tm.okId x1 = true by unfold Tm.okId; exact decide_eq_true hdk.1] at ID1
                    have HBX : Hid (∀ (x : World), Below W3.heap.size W3 x → x.cell? ⟨wr.heap.size, 0, none⟩ = some (.int .i64 x1) ∧ x.cell? ⟨wr.heap.size, 1, none⟩ = some (.int .i64 x2) ∧ x.cell? ⟨m, x1.toNat, none⟩ = some (.int .i64 x2) ∧ x.cell? ⟨b, off + q.toNat * 3 + 2, none⟩ = some (.int .i64 tm)) := fun x hx => by
                      have h1 := HO3.out.on.later hx
                      have h2 := hbox.later hx
                      refine ⟨h2.cell 0 rfl, h2.cell 1 rfl, ?_, (HCL.out _ h1).2.2⟩
                      rw [(h1.cell (by have := HX1.out; omega)).1]
                      exact congrArg (fun n => some (Value.int .i64 n)) hfd
                    have HW3 := hidden hW3
                    clear hW3 hBW3 hbox hdk hdt hfd HO
                    go_upto_region 29 with fail
                    rw [← HW3.out]
                    refine Ord.wp_region_ex0 (X := Unit) (by kernel_rfl) 189 (fun x => [(some 130, .pointer (some ⟨wr.heap.size, 0, none⟩)), (some 131, .int .i64 x1), (some 132, .bool true), (some 133, .bool false), (some 134, .bool false), (some 135, .slice (some ⟨m, 0, none⟩) 4096 4096), (some 136, .pointer (some ⟨wr.heap.size, 0, none⟩)), (some 137, .int .i64 x1), (some 138, .pointer (some ⟨m, x1.toNat, none⟩)), (some 139, .int .i64 x2), (some 140, .pointer (some ⟨wr.heap.size, 1, none⟩)), (some 141, .int .i64 x2), (some 142, .bool false), (some 143, .bool false), (some 144, .bool false), (some 145, .pointer (some ⟨wr.heap.size, 1, none⟩)), (some 146, .int .i64 x2), (some 147, .slice (some ⟨b, off, none⟩) len0 cap0), (some 148, .int .i64 q), (some 149, .pointer (some ⟨b, off + q.toNat * 3, none⟩)), (some 150, .pointer (some ⟨b, off + q.toNat * 3 + 2, none⟩)), (some 151, .int .i64 tm), (some 152, .bool false), (some 153, .bool false)]) [some 130, some 131, some 132, some 133, some 134, some 135, some 136, some 137, some 138, some 139, some 140, some 141, some 142, some 143, some 144, some 145, some 146, some 147, some 148, some 149, some 150, some 151, some 152, some 153] rfl (fun listed hsz hr => Ord.all_listedC (rank := [0, 1, 2, 3, 4, 5, 6, 7, 8, 9, 10, 11, 12, 13, 14, 15, 16, 17, 18, 19, 20, 21, 22, 23]) (by kernel_rfl) hsz hr) (by rfl) (fun _ => rfl) (by kernel_rfl) (Rg.StM [] (fun _ _ w' => Below W3.heap.size W3 w')) (fun _ _ _ _ hL h => h.ext (n := 24) (by decide) hL) ?_ ?_ () ?_
                    case refine_1 =>
                      intro x Lq iq oq ac w' ho hi hcl hdep hF hW
                      have f1 : ac.tmps.size = 189 := hF.1
                      match iq, ho, hi, hdep with
                      | 0, ho, hi, hdep =>
                        cases ho
                        have da0 : ac.eval (.tmp 12) = .pointer (some ⟨wr.heap.size, 0, none⟩) := hF.old 12 rfl
                        exact Ord.ex_value x rfl rfl (Rg.fa da0 rfl (by simp [go_sem])) rfl (hW.keep (by decide))
                      | 1, ho, hi, hdep =>
                        cases ho
                        have da0 : ac.eval (.tmp 130) = .pointer (some ⟨wr.heap.size, 0, none⟩) := hF.2.2.2 0 130 _ rfl (hdep ⟨0, .data⟩ (by simp) rfl)
                        obtain ⟨kq, hlo, hhi, hA⟩ := hW.range 0 0 (.inl rfl) (.inl rfl)
                        exact Ord.ex_value x rfl rfl (Rg.load da0 rfl (by simp [go_sem, (HBX.out _ hA).1])) rfl (hW.keep (by decide))
                      | 2, ho, hi, hdep =>
                        cases ho
                        have da0 : ac.eval (.tmp 131) = .int .i64 x1 := hF.2.2.2 1 131 _ rfl (hdep ⟨1, .data⟩ (by simp) rfl)
                        obtain ⟨kq, hlo, hhi, hA⟩ := hW.range 0 0 (.inl rfl) (.inl rfl)
                        exact Rg.ex_call x rfl rfl (Rg.enter (args := #[.int .i64 x1]) rfl rfl (by simp [da0]) EI.out) (Calls.mono (ID1.out _) (by rintro e w2 ⟨rfl, rfl⟩; exact ⟨rfl, (hW.keep (by decide))⟩))
                      | 3, ho, hi, hdep =>
                        cases ho
                        have da0 : ac.eval (.tmp 132) = .bool true := hF.2.2.2 2 132 _ rfl (hdep ⟨2, .data⟩ (by simp) rfl)
                        exact Ord.ex_value x rfl rfl (Rg.not_ da0 rfl) rfl (hW.keep (by decide))
                      | 4, ho, hi, hdep =>
                        cases ho
                        have da0 : ac.eval (.tmp 133) = .bool false := hF.2.2.2 3 133 _ rfl (hdep ⟨3, .data⟩ (by simp) rfl)
                        exact Ord.ex_value x rfl rfl (Rg.mv da0 rfl) rfl (hW.keep (by decide))
                      | 5, ho, hi, hdep =>
                        cases ho
                        have dg : ac.eval (.tmp 134) = .bool false := hF.2.2.2 4 134 _ rfl (hdep ⟨4, .guard⟩ (by simp) rfl)
                        have da0 : ac.eval (.tmp 4) = .slice (some ⟨m, 0, none⟩) 4096 4096 := hF.old 4 rfl
                        exact Ord.ex_value x rfl (Ord.wanted_of dg (by rw [f1]; decide) rfl rfl) (Rg.mv da0 rfl) rfl (hW.keep (by decide))
                      | 6, ho, hi, hdep =>
                        cases ho
                        have dg : ac.eval (.tmp 134) = .bool false := hF.2.2.2 4 134 _ rfl (hdep ⟨4, .guard⟩ (by simp) rfl)
                        have da0 : ac.eval (.tmp 12) = .pointer (some ⟨wr.heap.size, 0, none⟩) := hF.old 12 rfl
                        exact Ord.ex_value x rfl (Ord.wanted_of dg (by rw [f1]; decide) rfl rfl) (Rg.fa da0 rfl (by simp [go_sem])) rfl (hW.keep (by decide))
                      | 7, ho, hi, hdep =>
                        cases ho
                        have dg : ac.eval (.tmp 134) = .bool false := hF.2.2.2 4 134 _ rfl (hdep ⟨4, .guard⟩ (by simp) rfl)
                        have da0 : ac.eval (.tmp 136) = .pointer (some ⟨wr.heap.size, 0, none⟩) := hF.2.2.2 6 136 _ rfl (hdep ⟨6, .data⟩ (by simp) rfl)
                        obtain ⟨kq, hlo, hhi, hA⟩ := hW.range 0 0 (.inl rfl) (.inl rfl)
                        exact Ord.ex_value x rfl (Ord.wanted_of dg (by rw [f1]; decide) rfl rfl) (Rg.load da0 rfl (by simp [go_sem, (HBX.out _ hA).1])) rfl (hW.keep (by decide))
                      | 8, ho, hi, hdep =>
                        cases ho
                        have dg : ac.eval (.tmp 134) = .bool false := hF.2.2.2 4 134 _ rfl (hdep ⟨4, .guard⟩ (by simp) rfl)
                        have da0 : ac.eval (.tmp 135) = .slice (some ⟨m, 0, none⟩) 4096 4096 := hF.2.2.2 5 135 _ rfl (hdep ⟨5, .data⟩ (by simp) rfl)
                        have da1 : ac.eval (.tmp 137) = .int .i64 x1 := hF.2.2.2 7 137 _ rfl (hdep ⟨7, .data⟩ (by simp) rfl)
                        exact Ord.ex_value x rfl (Ord.wanted_of dg (by rw [f1]; decide) rfl rfl) (Rg.ix da0 da1 rfl (IXM.out _ _ HX1.out)) rfl (hW.keep (by decide))
                      | 9, ho, hi, hdep =>
                        cases ho
                        have dg : ac.eval (.tmp 134) = .bool false := hF.2.2.2 4 134 _ rfl (hdep ⟨4, .guard⟩ (by simp) rfl)
                        have da0 : ac.eval (.tmp 138) = .pointer (some ⟨m, x1.toNat, none⟩) := hF.2.2.2 8 138 _ rfl (hdep ⟨8, .data⟩ (by simp) rfl)
                        obtain ⟨kq, hlo, hhi, hA⟩ := hW.range 0 0 (.inl rfl) (.inl rfl)
                        exact Ord.ex_value x rfl (Ord.wanted_of dg (by rw [f1]; decide) rfl rfl) (Rg.load da0 rfl (by simp [go_sem, (HBX.out _ hA).2.2.1])) rfl (hW.keep (by decide))
                      | 10, ho, hi, hdep =>
                        cases ho
                        have dg : ac.eval (.tmp 134) = .bool false := hF.2.2.2 4 134 _ rfl (hdep ⟨4, .guard⟩ (by simp) rfl)
                        have da0 : ac.eval (.tmp 12) = .pointer (some ⟨wr.heap.size, 0, none⟩) := hF.old 12 rfl
                        exact Ord.ex_value x rfl (Ord.wanted_of dg (by rw [f1]; decide) rfl rfl) (Rg.fa da0 rfl (by simp [go_sem])) rfl (hW.keep (by decide))
                      | 11, ho, hi, hdep =>
                        cases ho
                        have dg : ac.eval (.tmp 134) = .bool false := hF.2.2.2 4 134 _ rfl (hdep ⟨4, .guard⟩ (by simp) rfl)
                        have da0 : ac.eval (.tmp 140) = .pointer (some ⟨wr.heap.size, 1, none⟩) := hF.2.2.2 10 140 _ rfl (hdep ⟨10, .data⟩ (by simp) rfl)
                        obtain ⟨kq, hlo, hhi, hA⟩ := hW.range 0 0 (.inl rfl) (.inl rfl)
                        exact Ord.ex_value x rfl (Ord.wanted_of dg (by rw [f1]; decide) rfl rfl) (Rg.load da0 rfl (by simp [go_sem, (HBX.out _ hA).2.1])) rfl (hW.keep (by decide))
                      | 12, ho, hi, hdep =>
                        cases ho
                        have dg : ac.eval (.tmp 134) = .bool false := hF.2.2.2 4 134 _ rfl (hdep ⟨4, .guard⟩ (by simp) rfl)
                        have da0 : ac.eval (.tmp 139) = .int .i64 x2 := hF.2.2.2 9 139 _ rfl (hdep ⟨9, .data⟩ (by simp) rfl)
                        have da1 : ac.eval (.tmp 141) = .int .i64 x2 := hF.2.2.2 11 141 _ rfl (hdep ⟨11, .data⟩ (by simp) rfl)
                        exact Ord.ex_value x rfl (Ord.wanted_of dg (by rw [f1]; decide) rfl rfl) (Rg.bin da0 da1 rfl (by simp [go_sem])) rfl (hW.keep (by decide))
                      | 13, ho, hi, hdep =>
                        cases ho
                        have da0 : ac.eval (.tmp 134) = .bool false := hF.2.2.2 4 134 _ rfl (hdep ⟨4, .data⟩ (by simp) rfl)
                        have da1 : ac.eval (.tmp 142) = .bool false := hF.2.2.2 12 142 _ rfl (hdep ⟨12, .data⟩ (by simp) rfl)
                        exact Ord.ex_value x rfl rfl (Rg.pick_f da0 da1 rfl) rfl (hW.keep (by decide))
                      | 14, ho, hi, hdep =>
                        cases ho
                        have da0 : ac.eval (.tmp 143) = .bool false := hF.2.2.2 13 143 _ rfl (hdep ⟨13, .data⟩ (by simp) rfl)
                        exact Ord.ex_value x rfl rfl (Rg.mv da0 rfl) rfl (hW.keep (by decide))
                      | 15, ho, hi, hdep =>
                        cases ho
                        have dg : ac.eval (.tmp 144) = .bool false := hF.2.2.2 14 144 _ rfl (hdep ⟨14, .guard⟩ (by simp) rfl)
                        have da0 : ac.eval (.tmp 12) = .pointer (some ⟨wr.heap.size, 0, none⟩) := hF.old 12 rfl
                        exact Ord.ex_value x rfl (Ord.wanted_of dg (by rw [f1]; decide) rfl rfl) (Rg.fa da0 rfl (by simp [go_sem])) rfl (hW.keep (by decide))
                      | 16, ho, hi, hdep =>
                        cases ho
                        have dg : ac.eval (.tmp 144) = .bool false := hF.2.2.2 14 144 _ rfl (hdep ⟨14, .guard⟩ (by simp) rfl)
                        have da0 : ac.eval (.tmp 145) = .pointer (some ⟨wr.heap.size, 1, none⟩) := hF.2.2.2 15 145 _ rfl (hdep ⟨15, .data⟩ (by simp) rfl)
                        obtain ⟨kq, hlo, hhi, hA⟩ := hW.range 0 0 (.inl rfl) (.inl rfl)
                        exact Ord.ex_value x rfl (Ord.wanted_of dg (by rw [f1]; decide) rfl rfl) (Rg.load da0 rfl (by simp [go_sem, (HBX.out _ hA).2.1])) rfl (hW.keep (by decide))
                      | 17, ho, hi, hdep =>
                        cases ho
                        have dg : ac.eval (.tmp 144) = .bool false := hF.2.2.2 14 144 _ rfl (hdep ⟨14, .guard⟩ (by simp) rfl)
                        have da0 : ac.eval (.tmp 0) = .slice (some ⟨b, off, none⟩) len0 cap0 := hF.old 0 rfl
                        exact Ord.ex_value x rfl (Ord.wanted_of dg (by rw [f1]; decide) rfl rfl) (Rg.mv da0 rfl) rfl (hW.keep (by decide))
                      | 18, ho, hi, hdep =>
                        cases ho
                        have dg : ac.eval (.tmp 144) = .bool false := hF.2.2.2 14 144 _ rfl (hdep ⟨14, .guard⟩ (by simp) rfl)
                        have da0 : ac.eval (.tmp 6) = .int .i64 q := hF.old 6 rfl
                        exact Ord.ex_value x rfl (Ord.wanted_of dg (by rw [f1]; decide) rfl rfl) (Rg.mv da0 rfl) rfl (hW.keep (by decide))
                      | 19, ho, hi, hdep =>
                        cases ho
                        have dg : ac.eval (.tmp 144) = .bool false := hF.2.2.2 14 144 _ rfl (hdep ⟨14, .guard⟩ (by simp) rfl)
                        have da0 : ac.eval (.tmp 147) = .slice (some ⟨b, off, none⟩) len0 cap0 := hF.2.2.2 17 147 _ rfl (hdep ⟨17, .data⟩ (by simp) rfl)
                        have da1 : ac.eval (.tmp 148) = .int .i64 q := hF.2.2.2 18 148 _ rfl (hdep ⟨18, .data⟩ (by simp) rfl)
                        exact Ord.ex_value x rfl (Ord.wanted_of dg (by rw [f1]; decide) rfl rfl) (Rg.ix da0 da1 rfl (IXL.out _)) rfl (hW.keep (by decide))
                      | 20, ho, hi, hdep =>
                        cases ho
                        have dg : ac.eval (.tmp 144) = .bool false := hF.2.2.2 14 144 _ rfl (hdep ⟨14, .guard⟩ (by simp) rfl)
                        have da0 : ac.eval (.tmp 149) = .pointer (some ⟨b, off + q.toNat * 3, none⟩) := hF.2.2.2 19 149 _ rfl (hdep ⟨19, .data⟩ (by simp) rfl)
                        exact Ord.ex_value x rfl (Ord.wanted_of dg (by rw [f1]; decide) rfl rfl) (Rg.fa da0 rfl (by simp [go_sem])) rfl (hW.keep (by decide))
                      | 21, ho, hi, hdep =>
                        cases ho
                        have dg : ac.eval (.tmp 144) = .bool false := hF.2.2.2 14 144 _ rfl (hdep ⟨14, .guard⟩ (by simp) rfl)
                        have da0 : ac.eval (.tmp 150) = .pointer (some ⟨b, off + q.toNat * 3 + 2, none⟩) := hF.2.2.2 20 150 _ rfl (hdep ⟨20, .data⟩ (by simp) rfl)
                        obtain ⟨kq, hlo, hhi, hA⟩ := hW.range 0 0 (.inl rfl) (.inl rfl)
                        exact Ord.ex_value x rfl (Ord.wanted_of dg (by rw [f1]; decide) rfl rfl) (Rg.load da0 rfl (by simp [go_sem, (HBX.out _ hA).2.2.2])) rfl (hW.keep (by decide))
                      | 22, ho, hi, hdep =>
                        cases ho
                        have dg : ac.eval (.tmp 144) = .bool false := hF.2.2.2 14 144 _ rfl (hdep ⟨14, .guard⟩ (by simp) rfl)
                        have da0 : ac.eval (.tmp 146) = .int .i64 x2 := hF.2.2.2 16 146 _ rfl (hdep ⟨16, .data⟩ (by simp) rfl)
                        have da1 : ac.eval (.tmp 151) = .int .i64 tm := hF.2.2.2 21 151 _ rfl (hdep ⟨21, .data⟩ (by simp) rfl)
                        exact Ord.ex_value x rfl (Ord.wanted_of dg (by rw [f1]; decide) rfl rfl) (Rg.bin da0 da1 rfl (by simp [go_sem, HX2.out])) rfl (hW.keep (by decide))
                      | 23, ho, hi, hdep =>
                        cases ho
                        have da0 : ac.eval (.tmp 144) = .bool false := hF.2.2.2 14 144 _ rfl (hdep ⟨14, .data⟩ (by simp) rfl)
                        have da1 : ac.eval (.tmp 152) = .bool false := hF.2.2.2 22 152 _ rfl (hdep ⟨22, .data⟩ (by simp) rfl)
                        exact Ord.ex_value x rfl rfl (Rg.pick_f da0 da1 rfl) rfl (hW.keep (by decide))
                    case refine_3 => exact Rg.StM.first (Below.refl _ W3).drew
                    case refine_2 =>
                      intro yy x4 hW
                      have HO4 := hidden (HO3.out.later hW.last)
                      obtain ⟨d0, d1, _⟩ := HBX.out _ hW.last
                      obtain ⟨hx0, hx1⟩ := HX1.out
                      have HQ9 := hidden (HO4.out.put x1.toNat (-1))
                      obtain ⟨m0, m1⟩ := HO4.out.on.cell (k := x1.toNat) (by omega)
                      clear hW d1
                      simp only [Ord.puts, Ord.prs]
                      go_simp
                      go_wp2
                      go_roundw
                      case rel => exact ⟨_, _, by omega, by omega, rfl, HQ9.out, HV9.out⟩
                      case measure => simp [intOf]; omega
                  · have HQ9 := hidden HO.out.on
                    have HV9 : Hid (Tm.Vl RR f) := by
                      have := HV.out
                      rw [show j.toNat = TT.length by omega, ← HTR.out, List.drop_left] at this
                      exact this
                    clear HV HO
                    go_wp2
                    go_roundw
                    case rel => exact ⟨_, _, _, _, by omega, by omega, rfl, HQ9.out, HV9.out⟩
                    case measure => simp [intOf]; omega
              · have hk1' : (kI == 1) = false := beq_eq_false_iff_ne.2 hk1
                have hk2' : (kI == 2) = false := beq_eq_false_iff_ne.2 hk2
                have hk3' : (kI == 3) = false := beq_eq_false_iff_ne.2 hk3
                have HQ9 := HQ
                have HV9 := HV
                go_wp2
                go_roundw
                case rel => exact ⟨_, _, _, _, by omega, by omega, rfl, HQ9.out, HV9.out⟩
                case measure => simp [intOf]; omega
        · go_wp2_with fail
          clear hq j1 j2
          go_loopw [13, 160] (fun c i wr => ∃ (j : Int), 0 ≤ j ∧ j ≤ 4096 ∧ i = .int .i64 j ∧ c = .int .i64 ((Tm.cnt f j.toNat : Nat) : Int) ∧ Hid (Tm.On W F0 wr t m S l f)) (fun _ i _ => 4096 - (intOf i).toNat)
          case atStart => exact ⟨0, by omega, by omega, rfl, rfl, HQ.out⟩
          case round =>
            clear HQ
            obtain ⟨j, i1, i2, rfl, rfl, HQ⟩ := hrel
            have hcl := Tm.cnt_le f j.toNat
            by_cases hj : j < 4096
            · obtain ⟨m0, m1⟩ := HQ.out.cell (k := j.toNat) (by omega)
              have hcs : Tm.cnt f (j + 1).toNat = Tm.cnt f j.toNat + (if 0 ≤ f j.toNat then 1 else 0) := by rw [show (j + 1).toNat = j.toNat + 1 by omega]; rfl
              by_cases hf : 0 ≤ f j.toNat
              · rw [if_pos hf] at hcs
                have HCS := hidden hcs
                clear hcs
                go_wp2
                go_roundw
                case rel => exact ⟨_, by omega, by omega, rfl, by rw [HCS.out]; rfl, HQ.out⟩
                case measure => simp [intOf]; omega
              · rw [if_neg hf] at hcs
                have HCS := hidden hcs
                clear hcs
                go_wp2
                go_roundw
                case rel => exact ⟨_, by omega, by omega, rfl, by rw [HCS.out]; rfl, HQ.out⟩
                case measure => simp [intOf]; omega
            · obtain ⟨_, hSk, hSn, hSl⟩ := HQ.out.ok
              have hall := Tm.cnt_all HV.out hSn hSk
              rw [show j.toNat = 4096 by omega, hall]
              have hde := Tm.due_max HQ.out.last
              obtain ⟨ht1, ht2⟩ := Tm.told_max hSk
              have HD := hidden (HQ.out.due 1099511627776)
              rw [hde, show Tm.dS 1099511627776 l S = [] by unfold Tm.dS; rw [if_pos hde]; exact ht2, show Tm.dT 1099511627776 l S = S by unfold Tm.dT; rw [if_pos hde]; exact ht1] at HD
              clear hall hde ht1 ht2 hSk hSn hcl HV
              go_wp2_with fail
              refine Calls.mono HD.out ?_
              rintro e x2 ⟨tv, rfl, hP2⟩
              have HP2 := hidden hP2.on
              obtain ⟨ta, tcap, rfl, _⟩ := hP2.row
              have HL := hidden hP2.on.len
              clear hP2 HD HQ
              go_wp2_with fail
              refine Calls.mono HL.out ?_
              rintro e x3 ⟨rfl, rfl⟩
              go_wp2
              go_ret
              exact ⟨rfl, HBL.out _ HP2.out⟩

theorem contract (H : Type) (enc : TypeId × Value → H) (W : World) (base : Nat) (args : Array Value) (ds gs : List (DataW H)) (before : List MemPlace)
    (hval : ∀ (j : Nat) t v, Try.f4.params[j]? = some t → args[j]? = some v → Value.okWide Try.prog W .any base t v)
    (hW : DataW.Whole enc Try.prog Try.f4.params.toList Rows.timersOnceSpec.vars false W args.toList ds gs before)
    (hsz0 : (DataW.weightsEach Try.prog (Try.f4.params.toList ++ Rows.timersOnceSpec.plain.varTypes Try.prog) (ds ++ gs)).all (· ≤ reachBytes) = true) :
    Calls Try.prog 4 args W fun e W' => ∃ v, e = .returned v ∧ Rows.timersOnceSpec.post enc Try.prog Try.f4 false true false false W args v W' := by
  have hW' := hW
  obtain ⟨p, q, hA0, hV, rfl, hfz, hnd⟩ := hW
  have hA : DataW.TrodAll enc Try.prog W 0 (fun _ => true) true Try.f4.params.toList args.toList ds p := hA0
  have hsz := hsz0
  rw [Try.params4] at hA hval hsz
  obtain ⟨v0, vs0, d0, ds0, p0, q0, hargs, rfl, rfl, h0, r0⟩ := trodAll_cons hA
  obtain ⟨rfl, rfl, rfl⟩ := trodAll_nil r0
  obtain rfl : args = #[v0] := by cases args; simp_all
  obtain ⟨rfl, rfl⟩ := trodVars_none hV
  obtain ⟨a0, len0, cap0, rfl⟩ := okWide_slice Try.underlying22 (hval 0 22 v0 rfl rfl)
  have k0 := h0
  have lt0 : ∀ x ∈ p0, x.block < W.heap.size := by obtain ⟨m, hm⟩ := k0; exact DataW.trod_lt m _ _ _ hm
  have sz0 : (d0.weights Try.prog 22).all (· ≤ reachBytes) = true := List.all_eq_true.2 fun m hm => List.all_eq_true.1 hsz m (DataW.weights_mem_each (j := 0) rfl rfl m hm)
  obtain ⟨z0, w0, s0⟩ : ∃ zs, Ag.Rows (fun q : Int × Int × Int => [.int .i64 q.1, .int .i64 q.2.1, .int .i64 q.2.2]) (fun q => (Lit.int .i64 q.1).wf = true ∧ (Lit.int .i64 q.2.1).wf = true ∧ (Lit.int .i64 q.2.2).wf = true) 3 W a0 len0 zs ∧ len0 ≤ cap0 ∧ cap0 * Try.prog.bytesOf 32 ≤ 140737488351232 ∧ (a0 = none → len0 = 0 ∧ cap0 = 0) := by
    obtain ⟨fuel, hf⟩ := h0
    exact Ag.rows_arg (Ag.kind3 Try.underlying32 (by kernel_rfl) rfl rfl rfl Try.underlying3 Try.underlying3 Try.underlying3 (by kernel_rfl) (by kernel_rfl) (by kernel_rfl)) Try.underlying22 (Nat.le_of_ble_eq_true (by kernel_rfl)) hf sz0
  clear hA0 hsz0 hsz
  refine (walk a0 len0 cap0 z0 W w0 s0).mono fun e W' ⟨he, bel⟩ => ?_
  subst he
  exact ⟨_, rfl, _, _, _, [], _, [], hW', trodAll_mk1 (shut_bool Try.underlying4 _), (trodAll_cons_mk (Below.trod laidOut (by kernel_rfl) (of_decide_eq_true (by kernel_rfl)) k0 bel lt0) trodAll_mk0), rfl, bel.frame _, fun h => by cases h⟩

noncomputable def laidWorld (os : Os) : World :=
  World.holding Try.prog os ⟨#[], #[], []⟩
theorem laid_met (os : Os) : laidMet Try.prog Rows.timersOnceRow.laid ((laidWorld os).forCall (fun _ _ => 0) ⟨#[], #[.slice none 0 0], []⟩).memory :=
  laidMet_of_run' 8 (by kernel_rfl) (by kernel_rfl)
theorem reads (os : Os) {H : Type} (enc : TypeId × Value → H) : ∃ places, DataW.whole enc Try.prog ((laidWorld os).forCall (fun _ _ => 0) ⟨#[], #[.slice none 0 0], []⟩).memory Try.f4.params.toList Rows.timersOnceSpec.vars false #[Value.slice none 0 0].toList 8 = some ([.nil], [], places) :=
  ⟨[], by kernel_rfl⟩

set_option maxRecDepth 100000 in
theorem lifted (os : Os) (started : os.Started) (H : Type) (enc : TypeId × Value → H) (F : Stop.Interp) :
    ReturnsInHanded {} Try.checked os 4 .any ((OpenSpec.ofChange Rows.timersOnceSpec).preRow enc Try.prog Try.f4 Rows.timersOnceRow.domain false Rows.timersOnceRow.laid) (((OpenSpec.ofChange Rows.timersOnceSpec).at F).post enc Try.prog Try.f4 false true false false) := by
  obtain ⟨places, hx⟩ := reads os enc
  refine returnsInHanded_of_row (C := Try.checked) (s := OpenSpec.ofChange Rows.timersOnceSpec) own started (by kernel_rfl) Try.func4
    (witness_row_at (enc := enc) (C := Try.checked) false (laidWorld os) #[.slice none 0 0] rfl (by kernel_rfl) (by kernel_rfl) (by kernel_rfl)
      (OpenSpec.preRow_of_cond 8 hx (by kernel_rfl) (fun k hk => by cases hk) (by kernel_rfl) (laid_met os))) ?_
  intro W base args ds gs before hval hW _ hcond hsz hL _ _
  exact contract H enc W base args ds gs before hval hW hsz

theorem said : Rows.TimersOnceSaid :=
  OpenClaim.holds_of_cond 4 Try.f4 rfl rfl rfl rfl rfl rfl rfl ⟨rfl, rfl, rfl, rfl, rfl⟩ rfl rfl rfl rfl rfl (by kernel_rfl) Try.func4 (by kernel_rfl)
    (of_decide_eq_true (by kernel_rfl)) (by unfold Func.isWrapper; first | (rw [if_pos (by decide +kernel)]; kernel_rfl) | (rw [if_neg (by decide +kernel)]; exact ⟨rfl, rfl⟩))
    (fun os started H enc _ F => by rw [OpenClaim.pre_eq_preRow]; exact lifted os started H enc F)

/-- THE STATEMENT -/
theorem proved : Rows.TimersOnceSaid := said
#print axioms proved
end Go.Proofs.Ytinhhfnknlmdgaa.timersOnce
