/-
  Windows: bounds that may be; windows that may be; half of a window.
  Conditions: as at each lemma.
-/
import Derived.Test.YtaaghlgleofcgaaCwA
namespace Go.Proofs.Ytaaghlgleofcgaa.Cw
open Go.ChangeShapes Go.WideShapes Go.ChangeAt Go.RowKit
open Ba (hidden Has Only)
open Ow (Own)
set_option linter.unusedVariables false

theorem cells5 {w w1 : World} {L : List Ow.Bk} {b : Nat} {c s p m k : Int} {t : TypeId} (h : Own w w1 L) (hx : (b, #[.int .i64 c, .int .i64 s, .int .i64 p, .int .i64 m, .int .i64 k], t) ∈ L) : w1.cell? ⟨b, 0, none⟩ = some (.int .i64 c) ∧ w1.cell? ⟨b, 1, none⟩ = some (.int .i64 s) ∧ w1.cell? ⟨b, 2, none⟩ = some (.int .i64 p) ∧ w1.cell? ⟨b, 3, none⟩ = some (.int .i64 m) ∧ w1.cell? ⟨b, 4, none⟩ = some (.int .i64 k) :=
  ⟨h.cell hx 0 rfl, h.cell hx 1 rfl, h.cell hx 2 rfl, h.cell hx 3 rfl, h.cell hx 4 rfl⟩
theorem ev_const (a : Act) (v : Value) : a.eval (.const v) = v := rfl
theorem At.with {w w' : World} {L : List Ow.Bk} {n : Nat} {x : Ow.Bk} (h : At w w' L n) (hx : x ∈ L) : Own w w' [x] ∧ At w w' L n := ⟨h.1.sub (by simpa using hx), h⟩
section
variable (c s p m k : Int) (w : World)
theorem boundedT (hm : 100 ≤ m ∧ m ≤ 1500) : Calls Try.prog 38 #[.agg #[.int .i64 c, .int .i64 s, .int .i64 p, .int .i64 m, .int .i64 k]] w fun e w' => e = .returned (.bool (decide (4 * m ≤ k ∧ k ≤ 1073741824))) ∧ Below w.heap.size w w' ∧ w'.heap.size = w.heap.size + 4 := by
  have R1 : Hid (∀ W b, Has W b #[.int .i64 100, .int .i64 m, .int .i64 1500] 3 → Calls Try.prog 42 #[.slice (some ⟨b, 0, none⟩) 3 3] W fun e w' => e = .returned (.bool true) ∧ Sm W w') := fun W b h => by
    have := rise3 h
    rw [decide_eq_true (show 100 ≤ m ∧ m ≤ 1500 from hm)] at this
    exact this
  have R2 : Hid (∀ W b, Has W b #[.int .i64 (4 * m), .int .i64 k, .int .i64 1073741824] 3 → Calls Try.prog 42 #[.slice (some ⟨b, 0, none⟩) 3 3] W fun e w' => e = .returned (.bool (decide (4 * m ≤ k ∧ k ≤ 1073741824))) ∧ Sm W w') := fun W b h => rise3 h
  have LO := hidden (fun W => low c s p m k W hm)
  have ER : Hid (∀ (args : Array Value) (w : World), (callFunc 42 args).run Try.prog w = .ok (.enter 42 args) w) := enters_of Try.func42 (by kernel_rfl) rfl
  have EL : Hid (∀ (args : Array Value) (w : World), (callFunc 39 args).run Try.prog w = .ok (.enter 39 args) w) := enters_of Try.func39 (by kernel_rfl) rfl
  generalize decide (4 * m ≤ k ∧ k ≤ 1073741824) = z at R2 ⊢
  clear hm
  go_enter Try.func38, Try.ntmps38
  go_upto_region 1 with fail
  refine Ord.wp_region_ex0 (X := Unit) (by kernel_rfl) 17 (fun x => [(some 3, .pointer (some ⟨w.heap.size, 0, none⟩)), (some 4, .pointer (some ⟨w.heap.size, 3, none⟩)), (some 5, .int .i64 m), (some 6, .slice (some ⟨w.heap.size + 1, 0, none⟩) 3 3), (some 7, .bool true), (some 8, .bool true), (some 9, .agg #[.int .i64 c, .int .i64 s, .int .i64 p, .int .i64 m, .int .i64 k]), (some 10, .int .i64 (4 * m)), (some 11, .pointer (some ⟨w.heap.size, 0, none⟩)), (some 12, .pointer (some ⟨w.heap.size, 4, none⟩)), (some 13, .int .i64 k), (some 14, .slice (some ⟨w.heap.size + 3, 0, none⟩) 3 3), (some 15, .bool z), (some 16, .bool z), (some 2, .bool z)]) [some 3, some 4, some 5, some 6, some 7, some 8, some 9, some 10, some 11, some 12, some 13, some 14, some 15, some 16, some 2] rfl (fun listed hsz hr => Ord.all_listedC (rank := [0, 1, 2, 3, 4, 5, 6, 7, 8, 9, 10, 11, 12, 13, 14]) (by kernel_rfl) hsz hr) (by rfl) (fun _ => rfl) (by kernel_rfl) (Rg.StM [3, 4, 7, 11, 12] (fun kA _ w' => Own w w' [(w.heap.size, #[.int .i64 c, .int .i64 s, .int .i64 p, .int .i64 m, .int .i64 k], 48)] ∧ At w w' (List.getD [[(w.heap.size, #[.int .i64 c, .int .i64 s, .int .i64 p, .int .i64 m, .int .i64 k], 48)], [(w.heap.size + 1, #[.int .i64 100, .int .i64 m, .int .i64 1500], 3), (w.heap.size, #[.int .i64 c, .int .i64 s, .int .i64 p, .int .i64 m, .int .i64 k], 48)], [(w.heap.size + 1, #[.int .i64 100, .int .i64 m, .int .i64 1500], 3), (w.heap.size, #[.int .i64 c, .int .i64 s, .int .i64 p, .int .i64 m, .int .i64 k], 48)], [(w.heap.size + 1, #[.int .i64 100, .int .i64 m, .int .i64 1500], 3), (w.heap.size, #[.int .i64 c, .int .i64 s, .int .i64 p, .int .i64 m, .int .i64 k], 48)], [(w.heap.size + 3, #[.int .i64 (4 * m), .int .i64 k, .int .i64 1073741824], 3), (w.heap.size + 1, #[.int .i64 100, .int .i64 m, .int .i64 1500], 3), (w.heap.size, #[.int .i64 c, .int .i64 s, .int .i64 p, .int .i64 m, .int .i64 k], 48)], [(w.heap.size + 3, #[.int .i64 (4 * m), .int .i64 k, .int .i64 1073741824], 3), (w.heap.size + 1, #[.int .i64 100, .int .i64 m, .int .i64 1500], 3), (w.heap.size, #[.int .i64 c, .int .i64 s, .int .i64 p, .int .i64 m, .int .i64 k], 48)]] kA []) (List.getD [1, 2, 2, 3, 4, 4] kA 0))) (fun _ _ _ _ hL h => h.ext (n := 15) (by decide) hL) ?_ ?_ () ?_
  case refine_1 =>
    intro x Lq iq oq ac w' ho hi hcl hdep hF hW
    have f1 : ac.tmps.size = 17 := hF.1
    match iq, ho, hi, hdep with
    | 0, ho, hi, hdep =>
      cases ho
      have da0 : ac.eval (.tmp 1) = .pointer (some ⟨w.heap.size, 0, none⟩) := hF.old 1 rfl
      exact Ord.ex_value x rfl rfl (Rg.fa da0 rfl (by simp [go_sem])) rfl (hW.keep (by decide))
    | 1, ho, hi, hdep =>
      cases ho
      have da0 : ac.eval (.tmp 3) = .pointer (some ⟨w.heap.size, 0, none⟩) := hF.2.2.2 0 3 _ rfl (hdep ⟨0, .data⟩ (by simp) rfl)
      exact Ord.ex_value x rfl rfl (Rg.fa da0 rfl (by simp [go_sem])) rfl (hW.keep (by decide))
    | 2, ho, hi, hdep =>
      cases ho
      have da0 : ac.eval (.tmp 4) = .pointer (some ⟨w.heap.size, 3, none⟩) := hF.2.2.2 1 4 _ rfl (hdep ⟨1, .data⟩ (by simp) rfl)
      obtain ⟨kq, hlo, hhi, hA⟩ := hW.range 0 0 (.inl rfl) (.inr ⟨3, rfl, (Rg.no_of (fun h => hcl 3 _ rfl (h) ⟨2, .data⟩ (by simp) rfl) hi)⟩)
      obtain ⟨c0, c1, c2, c3, c4⟩ := cells5 hA.1 (.head _)
      exact Ord.ex_value x rfl rfl (Rg.load da0 rfl (by simp [go_sem, c3])) rfl (hW.keep (by decide))
    | 3, ho, hi, hdep =>
      cases ho
      have da0 : ac.eval (.tmp 5) = .int .i64 m := hF.2.2.2 2 5 _ rfl (hdep ⟨2, .data⟩ (by simp) rfl)
      have hA := hW.at (k := 0) rfl hi (.inl rfl)
      exact Ord.ex_value x rfl rfl (Rg.bsl rfl (by simp [da0, ev_const]) (bs3 hA.2.2 _ _ _)) rfl (hW.next (k := 0) rfl (by decide) hi (.inl rfl) (At.with (hA.2.more _ _) (by simp)))
    | 4, ho, hi, hdep =>
      cases ho
      have da0 : ac.eval (.tmp 6) = .slice (some ⟨w.heap.size + 1, 0, none⟩) 3 3 := hF.2.2.2 3 6 _ rfl (hdep ⟨3, .data⟩ (by simp) rfl)
      have hA := hW.at (k := 1) rfl hi (.inr ⟨3, rfl, (hdep ⟨3, .data⟩ (by simp) rfl)⟩)
      refine Rg.ex_call x rfl rfl (Rg.enter (args := #[.slice (some ⟨w.heap.size + 1, 0, none⟩) 3 3]) rfl rfl (by simp [da0]) ER.out) (Calls.mono (R1.out _ _ (hA.2.1.has (.head _))) ?_)
      rintro e w2 ⟨rfl, hS⟩
      exact ⟨rfl, hW.next (k := 1) rfl (by decide) hi (.inr ⟨3, rfl, (hdep ⟨3, .data⟩ (by simp) rfl)⟩) (At.with (hA.2.same hS) (by simp))⟩
    | 5, ho, hi, hdep =>
      cases ho
      have da0 : ac.eval (.tmp 7) = .bool true := hF.2.2.2 4 7 _ rfl (hdep ⟨4, .data⟩ (by simp) rfl)
      exact Ord.ex_value x rfl rfl (Rg.mv da0 rfl) rfl (hW.keep (by decide))
    | 6, ho, hi, hdep =>
      cases ho
      have dg : ac.eval (.tmp 8) = .bool true := hF.2.2.2 5 8 _ rfl (hdep ⟨5, .guard⟩ (by simp) rfl)
      have da0 : ac.eval (.tmp 1) = .pointer (some ⟨w.heap.size, 0, none⟩) := hF.old 1 rfl
      obtain ⟨kq, hlo, hhi, hA⟩ := hW.range 2 2 (.inr ⟨4, rfl, (hcl 5 _ rfl (hdep ⟨5, .guard⟩ (by simp) rfl) ⟨4, .data⟩ (by simp) rfl)⟩) (.inr ⟨7, rfl, (Rg.no_of (fun h => hcl 7 _ rfl (h) ⟨6, .data⟩ (by simp) rfl) hi)⟩)
      obtain ⟨c0, c1, c2, c3, c4⟩ := cells5 hA.1 (.head _)
      exact Ord.ex_value x rfl (Ord.wanted_of dg (by rw [f1]; decide) rfl rfl) (Rg.load da0 rfl (by simp [go_sem, c0, c1, c2, c3, c4])) rfl (hW.keep (by decide))
    | 7, ho, hi, hdep =>
      cases ho
      have dg : ac.eval (.tmp 8) = .bool true := hF.2.2.2 5 8 _ rfl (hdep ⟨5, .guard⟩ (by simp) rfl)
      have da0 : ac.eval (.tmp 9) = .agg #[.int .i64 c, .int .i64 s, .int .i64 p, .int .i64 m, .int .i64 k] := hF.2.2.2 6 9 _ rfl (hdep ⟨6, .data⟩ (by simp) rfl)
      have hA := hW.at (k := 2) rfl hi (.inr ⟨4, rfl, (hcl 5 _ rfl (hdep ⟨5, .chain⟩ (by simp) rfl) ⟨4, .data⟩ (by simp) rfl)⟩)
      refine Rg.ex_call x rfl (Ord.wanted_of dg (by rw [f1]; decide) rfl rfl) (Rg.enter (args := #[.agg #[.int .i64 c, .int .i64 s, .int .i64 p, .int .i64 m, .int .i64 k]]) rfl rfl (by simp [da0]) EL.out) (Calls.mono (LO.out _) ?_)
      rintro e w2 ⟨rfl, rfl⟩
      exact ⟨rfl, hW.next (k := 2) rfl (by decide) hi (.inr ⟨4, rfl, (hcl 5 _ rfl (hdep ⟨5, .chain⟩ (by simp) rfl) ⟨4, .data⟩ (by simp) rfl)⟩) (At.with (hA.2.also _ _) (by simp))⟩
    | 8, ho, hi, hdep =>
      cases ho
      have dg : ac.eval (.tmp 8) = .bool true := hF.2.2.2 5 8 _ rfl (hdep ⟨5, .guard⟩ (by simp) rfl)
      have da0 : ac.eval (.tmp 1) = .pointer (some ⟨w.heap.size, 0, none⟩) := hF.old 1 rfl
      exact Ord.ex_value x rfl (Ord.wanted_of dg (by rw [f1]; decide) rfl rfl) (Rg.fa da0 rfl (by simp [go_sem])) rfl (hW.keep (by decide))
    | 9, ho, hi, hdep =>
      cases ho
      have dg : ac.eval (.tmp 8) = .bool true := hF.2.2.2 5 8 _ rfl (hdep ⟨5, .guard⟩ (by simp) rfl)
      have da0 : ac.eval (.tmp 11) = .pointer (some ⟨w.heap.size, 0, none⟩) := hF.2.2.2 8 11 _ rfl (hdep ⟨8, .data⟩ (by simp) rfl)
      exact Ord.ex_value x rfl (Ord.wanted_of dg (by rw [f1]; decide) rfl rfl) (Rg.fa da0 rfl (by simp [go_sem])) rfl (hW.keep (by decide))
    | 10, ho, hi, hdep =>
      cases ho
      have dg : ac.eval (.tmp 8) = .bool true := hF.2.2.2 5 8 _ rfl (hdep ⟨5, .guard⟩ (by simp) rfl)
      have da0 : ac.eval (.tmp 12) = .pointer (some ⟨w.heap.size, 4, none⟩) := hF.2.2.2 9 12 _ rfl (hdep ⟨9, .data⟩ (by simp) rfl)
      obtain ⟨kq, hlo, hhi, hA⟩ := hW.range 2 3 (.inr ⟨4, rfl, (hcl 5 _ rfl (hdep ⟨5, .guard⟩ (by simp) rfl) ⟨4, .data⟩ (by simp) rfl)⟩) (.inr ⟨11, rfl, (Rg.no_of (fun h => hcl 11 _ rfl (h) ⟨10, .data⟩ (by simp) rfl) hi)⟩)
      obtain ⟨c0, c1, c2, c3, c4⟩ := cells5 hA.1 (.head _)
      exact Ord.ex_value x rfl (Ord.wanted_of dg (by rw [f1]; decide) rfl rfl) (Rg.load da0 rfl (by simp [go_sem, c4])) rfl (hW.keep (by decide))
    | 11, ho, hi, hdep =>
      cases ho
      have dg : ac.eval (.tmp 8) = .bool true := hF.2.2.2 5 8 _ rfl (hdep ⟨5, .guard⟩ (by simp) rfl)
      have da0 : ac.eval (.tmp 10) = .int .i64 (4 * m) := hF.2.2.2 7 10 _ rfl (hdep ⟨7, .data⟩ (by simp) rfl)
      have da1 : ac.eval (.tmp 13) = .int .i64 k := hF.2.2.2 10 13 _ rfl (hdep ⟨10, .data⟩ (by simp) rfl)
      have hA := hW.at (k := 3) rfl hi (.inr ⟨7, rfl, (hdep ⟨7, .data⟩ (by simp) rfl)⟩)
      exact Ord.ex_value x rfl (Ord.wanted_of dg (by rw [f1]; decide) rfl rfl) (Rg.bsl rfl (by simp [da0, da1, ev_const]) (bs3 hA.2.2 _ _ _)) rfl (hW.next (k := 3) rfl (by decide) hi (.inr ⟨7, rfl, (hdep ⟨7, .data⟩ (by simp) rfl)⟩) (At.with (hA.2.more _ _) (by simp)))
    | 12, ho, hi, hdep =>
      cases ho
      have dg : ac.eval (.tmp 8) = .bool true := hF.2.2.2 5 8 _ rfl (hdep ⟨5, .guard⟩ (by simp) rfl)
      have da0 : ac.eval (.tmp 14) = .slice (some ⟨w.heap.size + 3, 0, none⟩) 3 3 := hF.2.2.2 11 14 _ rfl (hdep ⟨11, .data⟩ (by simp) rfl)
      have hA := hW.at (k := 4) rfl hi (.inr ⟨11, rfl, (hdep ⟨11, .data⟩ (by simp) rfl)⟩)
      refine Rg.ex_call x rfl (Ord.wanted_of dg (by rw [f1]; decide) rfl rfl) (Rg.enter (args := #[.slice (some ⟨w.heap.size + 3, 0, none⟩) 3 3]) rfl rfl (by simp [da0]) ER.out) (Calls.mono (R2.out _ _ (hA.2.1.has (.head _))) ?_)
      rintro e w2 ⟨rfl, hS⟩
      exact ⟨rfl, hW.next (k := 4) rfl (by decide) hi (.inr ⟨11, rfl, (hdep ⟨11, .data⟩ (by simp) rfl)⟩) (At.with (hA.2.same hS) (by simp))⟩
    | 13, ho, hi, hdep =>
      cases ho
      have da0 : ac.eval (.tmp 8) = .bool true := hF.2.2.2 5 8 _ rfl (hdep ⟨5, .data⟩ (by simp) rfl)
      have da1 : ac.eval (.tmp 15) = .bool z := hF.2.2.2 12 15 _ rfl (hdep ⟨12, .data⟩ (by simp) rfl)
      exact Ord.ex_value x rfl rfl (Rg.pick_t da0 da1 rfl) rfl (hW.keep (by decide))
    | 14, ho, hi, hdep =>
      cases ho
      have da0 : ac.eval (.tmp 16) = .bool z := hF.2.2.2 13 16 _ rfl (hdep ⟨13, .data⟩ (by simp) rfl)
      exact Ord.ex_value x rfl rfl (Rg.asg da0 rfl) rfl (hW.keep (by decide))
  case refine_2 =>
    intro x w' hW
    have hw := hidden hW.last.2
    clear hW
    simp only [Ord.puts, Ord.prs]
    go_simp
    go_wp2
    go_ret
    exact ⟨rfl, hw.out.below, hw.out.2⟩
  case refine_3 => exact Rg.StM.first (At.with ((At.zero w).more _ _).drew (by simp))
theorem boundedF (hm : ¬ (100 ≤ m ∧ m ≤ 1500)) : Calls Try.prog 38 #[.agg #[.int .i64 c, .int .i64 s, .int .i64 p, .int .i64 m, .int .i64 k]] w fun e w' => e = .returned (.bool false) ∧ Below w.heap.size w w' := by
  have R1 : Hid (∀ W b, Has W b #[.int .i64 100, .int .i64 m, .int .i64 1500] 3 → Calls Try.prog 42 #[.slice (some ⟨b, 0, none⟩) 3 3] W fun e w' => e = .returned (.bool false) ∧ Sm W w') := fun W b h => by
    have := rise3 h
    rw [decide_eq_false hm] at this
    exact this
  have ER : Hid (∀ (args : Array Value) (w : World), (callFunc 42 args).run Try.prog w = .ok (.enter 42 args) w) := enters_of Try.func42 (by kernel_rfl) rfl
  clear hm
  go_enter Try.func38, Try.ntmps38
  go_upto_region 1 with fail
  refine Ord.wp_region_ex0 (X := Unit) (by kernel_rfl) 17 (fun x => [(some 3, .pointer (some ⟨w.heap.size, 0, none⟩)), (some 4, .pointer (some ⟨w.heap.size, 3, none⟩)), (some 5, .int .i64 m), (some 6, .slice (some ⟨w.heap.size + 1, 0, none⟩) 3 3), (some 7, .bool false), (some 8, .bool false), (some 9, undef), (some 10, undef), (some 11, undef), (some 12, undef), (some 13, undef), (some 14, undef), (some 15, undef), (some 16, .bool false), (some 2, .bool false)]) [some 3, some 4, some 5, some 6, some 7, some 8, some 9, some 10, some 11, some 12, some 13, some 14, some 15, some 16, some 2] rfl (fun listed hsz hr => Ord.all_listedC (rank := [0, 1, 2, 3, 4, 5, 6, 7, 8, 9, 10, 11, 12, 13, 14]) (by kernel_rfl) hsz hr) (by rfl) (fun _ => rfl) (by kernel_rfl) (Rg.StM [3, 4] (fun kA _ w' => Own w w' [(w.heap.size, #[.int .i64 c, .int .i64 s, .int .i64 p, .int .i64 m, .int .i64 k], 48)] ∧ At w w' (List.getD [[(w.heap.size, #[.int .i64 c, .int .i64 s, .int .i64 p, .int .i64 m, .int .i64 k], 48)], [(w.heap.size + 1, #[.int .i64 100, .int .i64 m, .int .i64 1500], 3), (w.heap.size, #[.int .i64 c, .int .i64 s, .int .i64 p, .int .i64 m, .int .i64 k], 48)], [(w.heap.size + 1, #[.int .i64 100, .int .i64 m, .int .i64 1500], 3), (w.heap.size, #[.int .i64 c, .int .i64 s, .int .i64 p, .int .i64 m, .int .i64 k], 48)]] kA []) (List.getD [1, 2, 2] kA 0))) (fun _ _ _ _ hL h => h.ext (n := 15) (by decide) hL) ?_ ?_ () ?_
  case refine_1 =>
    intro x Lq iq oq ac w' ho hi hcl hdep hF hW
    have f1 : ac.tmps.size = 17 := hF.1
    match iq, ho, hi, hdep with
    | 0, ho, hi, hdep =>
      cases ho
      have da0 : ac.eval (.tmp 1) = .pointer (some ⟨w.heap.size, 0, none⟩) := hF.old 1 rfl
      exact Ord.ex_value x rfl rfl (Rg.fa da0 rfl (by simp [go_sem])) rfl (hW.keep (by decide))
    | 1, ho, hi, hdep =>
      cases ho
      have da0 : ac.eval (.tmp 3) = .pointer (some ⟨w.heap.size, 0, none⟩) := hF.2.2.2 0 3 _ rfl (hdep ⟨0, .data⟩ (by simp) rfl)
      exact Ord.ex_value x rfl rfl (Rg.fa da0 rfl (by simp [go_sem])) rfl (hW.keep (by decide))
    | 2, ho, hi, hdep =>
      cases ho
      have da0 : ac.eval (.tmp 4) = .pointer (some ⟨w.heap.size, 3, none⟩) := hF.2.2.2 1 4 _ rfl (hdep ⟨1, .data⟩ (by simp) rfl)
      obtain ⟨kq, hlo, hhi, hA⟩ := hW.range 0 0 (.inl rfl) (.inr ⟨3, rfl, (Rg.no_of (fun h => hcl 3 _ rfl (h) ⟨2, .data⟩ (by simp) rfl) hi)⟩)
      obtain ⟨c0, c1, c2, c3, c4⟩ := cells5 hA.1 (.head _)
      exact Ord.ex_value x rfl rfl (Rg.load da0 rfl (by simp [go_sem, c3])) rfl (hW.keep (by decide))
    | 3, ho, hi, hdep =>
      cases ho
      have da0 : ac.eval (.tmp 5) = .int .i64 m := hF.2.2.2 2 5 _ rfl (hdep ⟨2, .data⟩ (by simp) rfl)
      have hA := hW.at (k := 0) rfl hi (.inl rfl)
      exact Ord.ex_value x rfl rfl (Rg.bsl rfl (by simp [da0, ev_const]) (bs3 hA.2.2 _ _ _)) rfl (hW.next (k := 0) rfl (by decide) hi (.inl rfl) (At.with (hA.2.more _ _) (by simp)))
    | 4, ho, hi, hdep =>
      cases ho
      have da0 : ac.eval (.tmp 6) = .slice (some ⟨w.heap.size + 1, 0, none⟩) 3 3 := hF.2.2.2 3 6 _ rfl (hdep ⟨3, .data⟩ (by simp) rfl)
      have hA := hW.at (k := 1) rfl hi (.inr ⟨3, rfl, (hdep ⟨3, .data⟩ (by simp) rfl)⟩)
      refine Rg.ex_call x rfl rfl (Rg.enter (args := #[.slice (some ⟨w.heap.size + 1, 0, none⟩) 3 3]) rfl rfl (by simp [da0]) ER.out) (Calls.mono (R1.out _ _ (hA.2.1.has (.head _))) ?_)
      rintro e w2 ⟨rfl, hS⟩
      exact ⟨rfl, hW.next (k := 1) rfl (by decide) hi (.inr ⟨3, rfl, (hdep ⟨3, .data⟩ (by simp) rfl)⟩) (At.with (hA.2.same hS) (by simp))⟩
    | 5, ho, hi, hdep =>
      cases ho
      have da0 : ac.eval (.tmp 7) = .bool false := hF.2.2.2 4 7 _ rfl (hdep ⟨4, .data⟩ (by simp) rfl)
      exact Ord.ex_value x rfl rfl (Rg.mv da0 rfl) rfl (hW.keep (by decide))
    | 6, ho, hi, hdep =>
      cases ho
      have dg : ac.eval (.tmp 8) = .bool false := hF.2.2.2 5 8 _ rfl (hdep ⟨5, .guard⟩ (by simp) rfl)
      exact Cw.ex_not x rfl (Ord.wanted_no (bv := true) dg (by rw [f1]; decide) rfl rfl) rfl (hW.keep (by decide))
    | 7, ho, hi, hdep =>
      cases ho
      have dg : ac.eval (.tmp 8) = .bool false := hF.2.2.2 5 8 _ rfl (hdep ⟨5, .guard⟩ (by simp) rfl)
      exact Cw.ex_not x rfl (Ord.wanted_no (bv := true) dg (by rw [f1]; decide) rfl rfl) rfl (hW.keep (by decide))
    | 8, ho, hi, hdep =>
      cases ho
      have dg : ac.eval (.tmp 8) = .bool false := hF.2.2.2 5 8 _ rfl (hdep ⟨5, .guard⟩ (by simp) rfl)
      exact Cw.ex_not x rfl (Ord.wanted_no (bv := true) dg (by rw [f1]; decide) rfl rfl) rfl (hW.keep (by decide))
    | 9, ho, hi, hdep =>
      cases ho
      have dg : ac.eval (.tmp 8) = .bool false := hF.2.2.2 5 8 _ rfl (hdep ⟨5, .guard⟩ (by simp) rfl)
      exact Cw.ex_not x rfl (Ord.wanted_no (bv := true) dg (by rw [f1]; decide) rfl rfl) rfl (hW.keep (by decide))
    | 10, ho, hi, hdep =>
      cases ho
      have dg : ac.eval (.tmp 8) = .bool false := hF.2.2.2 5 8 _ rfl (hdep ⟨5, .guard⟩ (by simp) rfl)
      exact Cw.ex_not x rfl (Ord.wanted_no (bv := true) dg (by rw [f1]; decide) rfl rfl) rfl (hW.keep (by decide))
    | 11, ho, hi, hdep =>
      cases ho
      have dg : ac.eval (.tmp 8) = .bool false := hF.2.2.2 5 8 _ rfl (hdep ⟨5, .guard⟩ (by simp) rfl)
      exact Cw.ex_not x rfl (Ord.wanted_no (bv := true) dg (by rw [f1]; decide) rfl rfl) rfl (hW.keep (by decide))
    | 12, ho, hi, hdep =>
      cases ho
      have dg : ac.eval (.tmp 8) = .bool false := hF.2.2.2 5 8 _ rfl (hdep ⟨5, .guard⟩ (by simp) rfl)
      exact Cw.ex_not x rfl (Ord.wanted_no (bv := true) dg (by rw [f1]; decide) rfl rfl) rfl (hW.keep (by decide))
    | 13, ho, hi, hdep =>
      cases ho
      have da0 : ac.eval (.tmp 8) = .bool false := hF.2.2.2 5 8 _ rfl (hdep ⟨5, .data⟩ (by simp) rfl)
      have da1 : ac.eval (.tmp 15) = undef := hF.2.2.2 12 15 _ rfl (hdep ⟨12, .data⟩ (by simp) rfl)
      exact Ord.ex_value x rfl rfl (Rg.pick_f da0 rfl rfl) rfl (hW.keep (by decide))
    | 14, ho, hi, hdep =>
      cases ho
      have da0 : ac.eval (.tmp 16) = .bool false := hF.2.2.2 13 16 _ rfl (hdep ⟨13, .data⟩ (by simp) rfl)
      exact Ord.ex_value x rfl rfl (Rg.asg da0 rfl) rfl (hW.keep (by decide))
  case refine_2 =>
    intro x w' hW
    have hw := hidden hW.last.2
    clear hW
    simp only [Ord.puts, Ord.prs]
    go_simp
    go_wp2
    go_ret
    exact ⟨rfl, hw.out.below⟩
  case refine_3 => exact Rg.StM.first (At.with ((At.zero w).more _ _).drew (by simp))
end
/-- bounds that may be; windows that may be -/
abbrev bndP (m k : Int) : Prop := (100 ≤ m ∧ m ≤ 1500) ∧ 4 * m ≤ k ∧ k ≤ 1073741824
abbrev mayP (c s p m k : Int) : Prop := bndP m k ∧ (m ≤ c ∧ c ≤ k) ∧ (4 * m ≤ s ∧ s ≤ 1073741824) ∧ 0 ≤ p ∧ p ≤ c
theorem bounded_no (c s p : Int) {m k : Int} (h : ¬ bndP m k) (w : World) : Calls Try.prog 38 #[.agg #[.int .i64 c, .int .i64 s, .int .i64 p, .int .i64 m, .int .i64 k]] w fun e w' => e = .returned (.bool false) ∧ Below w.heap.size w w' := by
  by_cases hm : 100 ≤ m ∧ m ≤ 1500
  · have := boundedT c s p m k w hm
    rw [decide_eq_false (fun e => h ⟨hm, e⟩)] at this
    exact this.mono fun e w' ⟨h1, h2, _⟩ => ⟨h1, h2⟩
  · exact boundedF c s p m k w hm
theorem bounded_ok (c s p : Int) {m k : Int} (h : bndP m k) (w : World) : Calls Try.prog 38 #[.agg #[.int .i64 c, .int .i64 s, .int .i64 p, .int .i64 m, .int .i64 k]] w fun e w' => e = .returned (.bool true) ∧ Below w.heap.size w w' ∧ w'.heap.size = w.heap.size + 4 := by
  have := boundedT c s p m k w h.1
  rw [decide_eq_true h.2] at this
  exact this
set_option maxHeartbeats 1000000 in
theorem check0 (c s p m k : Int) (w : World) (h : ¬ bndP m k) : Calls Try.prog 41 #[.agg #[.int .i64 c, .int .i64 s, .int .i64 p, .int .i64 m, .int .i64 k]] w fun e w' => e = .returned (.int .i64 120) ∧ Below w.heap.size w w' := by
  have BD := hidden (fun W => bounded_no c s p h W)
  have EB : Hid (∀ (args : Array Value) (w : World), (callFunc 38 args).run Try.prog w = .ok (.enter 38 args) w) := enters_of Try.func38 (by kernel_rfl) rfl
  clear h
  go_enter Try.func41, Try.ntmps41
  go_upto_region 1 with fail
  refine Ord.wp_region_ex0 (X := Unit) (by kernel_rfl) 41 (fun x => [(some 3, .agg #[.int .i64 c, .int .i64 s, .int .i64 p, .int .i64 m, .int .i64 k]), (some 4, .bool false), (some 5, .bool true), (some 6, .bool true), (some 7, undef), (some 8, undef), (some 9, undef), (some 10, undef), (some 11, undef), (some 12, undef), (some 13, undef), (some 14, undef), (some 15, undef), (some 16, undef), (some 17, undef), (some 18, undef), (some 19, .bool true), (some 20, .bool true), (some 21, undef), (some 22, undef), (some 23, undef), (some 24, undef), (some 25, undef), (some 26, undef), (some 27, undef), (some 28, undef), (some 29, .bool true), (some 30, .bool true), (some 31, undef), (some 32, undef), (some 33, undef), (some 34, undef), (some 35, undef), (some 36, undef), (some 37, undef), (some 38, undef), (some 39, undef), (some 40, .bool true)]) [some 3, some 4, some 5, some 6, some 7, some 8, some 9, some 10, some 11, some 12, some 13, some 14, some 15, some 16, some 17, some 18, some 19, some 20, some 21, some 22, some 23, some 24, some 25, some 26, some 27, some 28, some 29, some 30, some 31, some 32, some 33, some 34, some 35, some 36, some 37, some 38, some 39, some 40] rfl (fun listed hsz hr => Ord.all_listedC (rank := [0, 1, 2, 3, 4, 5, 6, 7, 8, 9, 10, 11, 12, 13, 14, 15, 16, 17, 18, 19, 20, 21, 22, 23, 24, 25, 26, 27, 28, 29, 30, 31, 32, 33, 34, 35, 36, 37]) (by kernel_rfl) hsz hr) (by rfl) (fun _ => rfl) (by kernel_rfl) (Rg.StM [1] (fun _ _ w' => Own w w' [(w.heap.size, #[.int .i64 c, .int .i64 s, .int .i64 p, .int .i64 m, .int .i64 k], 48)] ∧ True)) (fun _ _ _ _ hL h => h.ext (n := 38) (by decide) hL) ?_ ?_ () ?_
  case refine_1 =>
    intro x Lq iq oq ac w' ho hi hcl hdep hF hW
    have f1 : ac.tmps.size = 41 := hF.1
    match iq, ho, hi, hdep with
    | 0, ho, hi, hdep =>
      cases ho
      have da0 : ac.eval (.tmp 1) = .pointer (some ⟨w.heap.size, 0, none⟩) := hF.old 1 rfl
      obtain ⟨kq, hlo, hhi, hA⟩ := hW.range 0 0 (.inl rfl) (.inr ⟨1, rfl, (Rg.no_of (fun h => hcl 1 _ rfl (h) ⟨0, .data⟩ (by simp) rfl) hi)⟩)
      obtain ⟨c0, c1, c2, c3, c4⟩ := cells5 hA.1 (.head _)
      exact Ord.ex_value x rfl rfl (Rg.load da0 rfl (by simp [go_sem, c0, c1, c2, c3, c4])) rfl (hW.keep (by decide))
    | 1, ho, hi, hdep =>
      cases ho
      have da0 : ac.eval (.tmp 3) = .agg #[.int .i64 c, .int .i64 s, .int .i64 p, .int .i64 m, .int .i64 k] := hF.2.2.2 0 3 _ rfl (hdep ⟨0, .data⟩ (by simp) rfl)
      have hA := hW.at (k := 0) rfl hi (.inl rfl)
      refine Rg.ex_call x rfl rfl (Rg.enter (args := #[.agg #[.int .i64 c, .int .i64 s, .int .i64 p, .int .i64 m, .int .i64 k]]) rfl rfl (by simp [da0]) EB.out) (Calls.mono (BD.out _) ?_)
      rintro e w2 ⟨rfl, hB⟩
      exact ⟨rfl, hW.next (k := 0) rfl (by decide) hi (.inl rfl) ⟨hA.1.later hB, trivial⟩⟩
    | 2, ho, hi, hdep =>
      cases ho
      have da0 : ac.eval (.tmp 4) = .bool false := hF.2.2.2 1 4 _ rfl (hdep ⟨1, .data⟩ (by simp) rfl)
      exact Ord.ex_value x rfl rfl (Rg.not_ da0 rfl) rfl (hW.keep (by decide))
    | 3, ho, hi, hdep =>
      cases ho
      have da0 : ac.eval (.tmp 5) = .bool true := hF.2.2.2 2 5 _ rfl (hdep ⟨2, .data⟩ (by simp) rfl)
      exact Ord.ex_value x rfl rfl (Rg.mv da0 rfl) rfl (hW.keep (by decide))
    | 4, ho, hi, hdep =>
      cases ho
      have dg : ac.eval (.tmp 6) = .bool true := hF.2.2.2 3 6 _ rfl (hdep ⟨3, .guard⟩ (by simp) rfl)
      exact Cw.ex_not x rfl (Ord.wanted_no (bv := false) dg (by rw [f1]; decide) rfl rfl) rfl (hW.keep (by decide))
    | 5, ho, hi, hdep =>
      cases ho
      have dg : ac.eval (.tmp 6) = .bool true := hF.2.2.2 3 6 _ rfl (hdep ⟨3, .guard⟩ (by simp) rfl)
      exact Cw.ex_not x rfl (Ord.wanted_no (bv := false) dg (by rw [f1]; decide) rfl rfl) rfl (hW.keep (by decide))
    | 6, ho, hi, hdep =>
      cases ho
      have dg : ac.eval (.tmp 6) = .bool true := hF.2.2.2 3 6 _ rfl (hdep ⟨3, .guard⟩ (by simp) rfl)
      exact Cw.ex_not x rfl (Ord.wanted_no (bv := false) dg (by rw [f1]; decide) rfl rfl) rfl (hW.keep (by decide))
    | 7, ho, hi, hdep =>
      cases ho
      have dg : ac.eval (.tmp 6) = .bool true := hF.2.2.2 3 6 _ rfl (hdep ⟨3, .guard⟩ (by simp) rfl)
      exact Cw.ex_not x rfl (Ord.wanted_no (bv := false) dg (by rw [f1]; decide) rfl rfl) rfl (hW.keep (by decide))
    | 8, ho, hi, hdep =>
      cases ho
      have dg : ac.eval (.tmp 6) = .bool true := hF.2.2.2 3 6 _ rfl (hdep ⟨3, .guard⟩ (by simp) rfl)
      exact Cw.ex_not x rfl (Ord.wanted_no (bv := false) dg (by rw [f1]; decide) rfl rfl) rfl (hW.keep (by decide))
    | 9, ho, hi, hdep =>
      cases ho
      have dg : ac.eval (.tmp 6) = .bool true := hF.2.2.2 3 6 _ rfl (hdep ⟨3, .guard⟩ (by simp) rfl)
      exact Cw.ex_not x rfl (Ord.wanted_no (bv := false) dg (by rw [f1]; decide) rfl rfl) rfl (hW.keep (by decide))
    | 10, ho, hi, hdep =>
      cases ho
      have dg : ac.eval (.tmp 6) = .bool true := hF.2.2.2 3 6 _ rfl (hdep ⟨3, .guard⟩ (by simp) rfl)
      exact Cw.ex_not x rfl (Ord.wanted_no (bv := false) dg (by rw [f1]; decide) rfl rfl) rfl (hW.keep (by decide))
    | 11, ho, hi, hdep =>
      cases ho
      have dg : ac.eval (.tmp 6) = .bool true := hF.2.2.2 3 6 _ rfl (hdep ⟨3, .guard⟩ (by simp) rfl)
      exact Cw.ex_not x rfl (Ord.wanted_no (bv := false) dg (by rw [f1]; decide) rfl rfl) rfl (hW.keep (by decide))
    | 12, ho, hi, hdep =>
      cases ho
      have dg : ac.eval (.tmp 6) = .bool true := hF.2.2.2 3 6 _ rfl (hdep ⟨3, .guard⟩ (by simp) rfl)
      exact Cw.ex_not x rfl (Ord.wanted_no (bv := false) dg (by rw [f1]; decide) rfl rfl) rfl (hW.keep (by decide))
    | 13, ho, hi, hdep =>
      cases ho
      have dg : ac.eval (.tmp 6) = .bool true := hF.2.2.2 3 6 _ rfl (hdep ⟨3, .guard⟩ (by simp) rfl)
      exact Cw.ex_not x rfl (Ord.wanted_no (bv := false) dg (by rw [f1]; decide) rfl rfl) rfl (hW.keep (by decide))
    | 14, ho, hi, hdep =>
      cases ho
      have dg : ac.eval (.tmp 6) = .bool true := hF.2.2.2 3 6 _ rfl (hdep ⟨3, .guard⟩ (by simp) rfl)
      exact Cw.ex_not x rfl (Ord.wanted_no (bv := false) dg (by rw [f1]; decide) rfl rfl) rfl (hW.keep (by decide))
    | 15, ho, hi, hdep =>
      cases ho
      have dg : ac.eval (.tmp 6) = .bool true := hF.2.2.2 3 6 _ rfl (hdep ⟨3, .guard⟩ (by simp) rfl)
      exact Cw.ex_not x rfl (Ord.wanted_no (bv := false) dg (by rw [f1]; decide) rfl rfl) rfl (hW.keep (by decide))
    | 16, ho, hi, hdep =>
      cases ho
      have da0 : ac.eval (.tmp 6) = .bool true := hF.2.2.2 3 6 _ rfl (hdep ⟨3, .data⟩ (by simp) rfl)
      have da1 : ac.eval (.tmp 18) = undef := hF.2.2.2 15 18 _ rfl (hdep ⟨15, .data⟩ (by simp) rfl)
      exact Ord.ex_value x rfl rfl (Rg.pick_t da0 rfl rfl) rfl (hW.keep (by decide))
    | 17, ho, hi, hdep =>
      cases ho
      have da0 : ac.eval (.tmp 19) = .bool true := hF.2.2.2 16 19 _ rfl (hdep ⟨16, .data⟩ (by simp) rfl)
      exact Ord.ex_value x rfl rfl (Rg.mv da0 rfl) rfl (hW.keep (by decide))
    | 18, ho, hi, hdep =>
      cases ho
      have dg : ac.eval (.tmp 20) = .bool true := hF.2.2.2 17 20 _ rfl (hdep ⟨17, .guard⟩ (by simp) rfl)
      exact Cw.ex_not x rfl (Ord.wanted_no (bv := false) dg (by rw [f1]; decide) rfl rfl) rfl (hW.keep (by decide))
    | 19, ho, hi, hdep =>
      cases ho
      have dg : ac.eval (.tmp 20) = .bool true := hF.2.2.2 17 20 _ rfl (hdep ⟨17, .guard⟩ (by simp) rfl)
      exact Cw.ex_not x rfl (Ord.wanted_no (bv := false) dg (by rw [f1]; decide) rfl rfl) rfl (hW.keep (by decide))
    | 20, ho, hi, hdep =>
      cases ho
      have dg : ac.eval (.tmp 20) = .bool true := hF.2.2.2 17 20 _ rfl (hdep ⟨17, .guard⟩ (by simp) rfl)
      exact Cw.ex_not x rfl (Ord.wanted_no (bv := false) dg (by rw [f1]; decide) rfl rfl) rfl (hW.keep (by decide))
    | 21, ho, hi, hdep =>
      cases ho
      have dg : ac.eval (.tmp 20) = .bool true := hF.2.2.2 17 20 _ rfl (hdep ⟨17, .guard⟩ (by simp) rfl)
      exact Cw.ex_not x rfl (Ord.wanted_no (bv := false) dg (by rw [f1]; decide) rfl rfl) rfl (hW.keep (by decide))
    | 22, ho, hi, hdep =>
      cases ho
      have dg : ac.eval (.tmp 20) = .bool true := hF.2.2.2 17 20 _ rfl (hdep ⟨17, .guard⟩ (by simp) rfl)
      exact Cw.ex_not x rfl (Ord.wanted_no (bv := false) dg (by rw [f1]; decide) rfl rfl) rfl (hW.keep (by decide))
    | 23, ho, hi, hdep =>
      cases ho
      have dg : ac.eval (.tmp 20) = .bool true := hF.2.2.2 17 20 _ rfl (hdep ⟨17, .guard⟩ (by simp) rfl)
      exact Cw.ex_not x rfl (Ord.wanted_no (bv := false) dg (by rw [f1]; decide) rfl rfl) rfl (hW.keep (by decide))
    | 24, ho, hi, hdep =>
      cases ho
      have dg : ac.eval (.tmp 20) = .bool true := hF.2.2.2 17 20 _ rfl (hdep ⟨17, .guard⟩ (by simp) rfl)
      exact Cw.ex_not x rfl (Ord.wanted_no (bv := false) dg (by rw [f1]; decide) rfl rfl) rfl (hW.keep (by decide))
    | 25, ho, hi, hdep =>
      cases ho
      have dg : ac.eval (.tmp 20) = .bool true := hF.2.2.2 17 20 _ rfl (hdep ⟨17, .guard⟩ (by simp) rfl)
      exact Cw.ex_not x rfl (Ord.wanted_no (bv := false) dg (by rw [f1]; decide) rfl rfl) rfl (hW.keep (by decide))
    | 26, ho, hi, hdep =>
      cases ho
      have da0 : ac.eval (.tmp 20) = .bool true := hF.2.2.2 17 20 _ rfl (hdep ⟨17, .data⟩ (by simp) rfl)
      have da1 : ac.eval (.tmp 28) = undef := hF.2.2.2 25 28 _ rfl (hdep ⟨25, .data⟩ (by simp) rfl)
      exact Ord.ex_value x rfl rfl (Rg.pick_t da0 rfl rfl) rfl (hW.keep (by decide))
    | 27, ho, hi, hdep =>
      cases ho
      have da0 : ac.eval (.tmp 29) = .bool true := hF.2.2.2 26 29 _ rfl (hdep ⟨26, .data⟩ (by simp) rfl)
      exact Ord.ex_value x rfl rfl (Rg.mv da0 rfl) rfl (hW.keep (by decide))
    | 28, ho, hi, hdep =>
      cases ho
      have dg : ac.eval (.tmp 30) = .bool true := hF.2.2.2 27 30 _ rfl (hdep ⟨27, .guard⟩ (by simp) rfl)
      exact Cw.ex_not x rfl (Ord.wanted_no (bv := false) dg (by rw [f1]; decide) rfl rfl) rfl (hW.keep (by decide))
    | 29, ho, hi, hdep =>
      cases ho
      have dg : ac.eval (.tmp 30) = .bool true := hF.2.2.2 27 30 _ rfl (hdep ⟨27, .guard⟩ (by simp) rfl)
      exact Cw.ex_not x rfl (Ord.wanted_no (bv := false) dg (by rw [f1]; decide) rfl rfl) rfl (hW.keep (by decide))
    | 30, ho, hi, hdep =>
      cases ho
      have dg : ac.eval (.tmp 30) = .bool true := hF.2.2.2 27 30 _ rfl (hdep ⟨27, .guard⟩ (by simp) rfl)
      exact Cw.ex_not x rfl (Ord.wanted_no (bv := false) dg (by rw [f1]; decide) rfl rfl) rfl (hW.keep (by decide))
    | 31, ho, hi, hdep =>
      cases ho
      have dg : ac.eval (.tmp 30) = .bool true := hF.2.2.2 27 30 _ rfl (hdep ⟨27, .guard⟩ (by simp) rfl)
      exact Cw.ex_not x rfl (Ord.wanted_no (bv := false) dg (by rw [f1]; decide) rfl rfl) rfl (hW.keep (by decide))
    | 32, ho, hi, hdep =>
      cases ho
      have dg : ac.eval (.tmp 30) = .bool true := hF.2.2.2 27 30 _ rfl (hdep ⟨27, .guard⟩ (by simp) rfl)
      exact Cw.ex_not x rfl (Ord.wanted_no (bv := false) dg (by rw [f1]; decide) rfl rfl) rfl (hW.keep (by decide))
    | 33, ho, hi, hdep =>
      cases ho
      have dg : ac.eval (.tmp 30) = .bool true := hF.2.2.2 27 30 _ rfl (hdep ⟨27, .guard⟩ (by simp) rfl)
      exact Cw.ex_not x rfl (Ord.wanted_no (bv := false) dg (by rw [f1]; decide) rfl rfl) rfl (hW.keep (by decide))
    | 34, ho, hi, hdep =>
      cases ho
      have dg : ac.eval (.tmp 30) = .bool true := hF.2.2.2 27 30 _ rfl (hdep ⟨27, .guard⟩ (by simp) rfl)
      exact Cw.ex_not x rfl (Ord.wanted_no (bv := false) dg (by rw [f1]; decide) rfl rfl) rfl (hW.keep (by decide))
    | 35, ho, hi, hdep =>
      cases ho
      have dg : ac.eval (.tmp 30) = .bool true := hF.2.2.2 27 30 _ rfl (hdep ⟨27, .guard⟩ (by simp) rfl)
      exact Cw.ex_not x rfl (Ord.wanted_no (bv := false) dg (by rw [f1]; decide) rfl rfl) rfl (hW.keep (by decide))
    | 36, ho, hi, hdep =>
      cases ho
      have dg : ac.eval (.tmp 30) = .bool true := hF.2.2.2 27 30 _ rfl (hdep ⟨27, .guard⟩ (by simp) rfl)
      exact Cw.ex_not x rfl (Ord.wanted_no (bv := false) dg (by rw [f1]; decide) rfl rfl) rfl (hW.keep (by decide))
    | 37, ho, hi, hdep =>
      cases ho
      have da0 : ac.eval (.tmp 30) = .bool true := hF.2.2.2 27 30 _ rfl (hdep ⟨27, .data⟩ (by simp) rfl)
      have da1 : ac.eval (.tmp 39) = undef := hF.2.2.2 36 39 _ rfl (hdep ⟨36, .data⟩ (by simp) rfl)
      exact Ord.ex_value x rfl rfl (Rg.pick_t da0 rfl rfl) rfl (hW.keep (by decide))
  case refine_2 =>
    intro x w' hW
    have hw := hidden hW.last.1
    clear hW
    simp only [Ord.puts, Ord.prs]
    go_simp
    go_wp2
    go_ret
    exact ⟨rfl, hw.out.below⟩
  case refine_3 => exact Rg.StM.first ⟨((At.zero w).more _ _).drew.1, trivial⟩
set_option maxHeartbeats 1000000 in
theorem check1 (c s p m k : Int) (w : World) (h : bndP m k) (h1 : ¬ (m ≤ c ∧ c ≤ k)) : Calls Try.prog 41 #[.agg #[.int .i64 c, .int .i64 s, .int .i64 p, .int .i64 m, .int .i64 k]] w fun e w' => e = .returned (.int .i64 120) ∧ Below w.heap.size w w' := by
  have BD := hidden (fun W => bounded_ok c s p h W)
  have EB : Hid (∀ (args : Array Value) (w : World), (callFunc 38 args).run Try.prog w = .ok (.enter 38 args) w) := enters_of Try.func38 (by kernel_rfl) rfl
  have ER : Hid (∀ (args : Array Value) (w : World), (callFunc 42 args).run Try.prog w = .ok (.enter 42 args) w) := enters_of Try.func42 (by kernel_rfl) rfl
  have R1 : Hid (∀ W b, Has W b #[.int .i64 m, .int .i64 c, .int .i64 k] 3 → Calls Try.prog 42 #[.slice (some ⟨b, 0, none⟩) 3 3] W fun e w' => e = .returned (.bool false) ∧ Sm W w') := fun W b h => by
    have := rise3 h
    rw [decide_eq_false (show ¬ (m ≤ c ∧ c ≤ k) from h1)] at this
    exact this
  clear h h1
  go_enter Try.func41, Try.ntmps41
  go_upto_region 1 with fail
  refine Ord.wp_region_ex0 (X := Unit) (by kernel_rfl) 41 (fun x => [(some 3, .agg #[.int .i64 c, .int .i64 s, .int .i64 p, .int .i64 m, .int .i64 k]), (some 4, .bool true), (some 5, .bool false), (some 6, .bool false), (some 7, .pointer (some ⟨w.heap.size, 0, none⟩)), (some 8, .pointer (some ⟨w.heap.size, 3, none⟩)), (some 9, .int .i64 m), (some 10, .pointer (some ⟨w.heap.size, 0, none⟩)), (some 11, .pointer (some ⟨w.heap.size, 0, none⟩)), (some 12, .int .i64 c), (some 13, .pointer (some ⟨w.heap.size, 0, none⟩)), (some 14, .pointer (some ⟨w.heap.size, 4, none⟩)), (some 15, .int .i64 k), (some 16, .slice (some ⟨w.heap.size + 5, 0, none⟩) 3 3), (some 17, .bool false), (some 18, .bool true), (some 19, .bool true), (some 20, .bool true), (some 21, undef), (some 22, undef), (some 23, undef), (some 24, undef), (some 25, undef), (some 26, undef), (some 27, undef), (some 28, undef), (some 29, .bool true), (some 30, .bool true), (some 31, undef), (some 32, undef), (some 33, undef), (some 34, undef), (some 35, undef), (some 36, undef), (some 37, undef), (some 38, undef), (some 39, undef), (some 40, .bool true)]) [some 3, some 4, some 5, some 6, some 7, some 8, some 9, some 10, some 11, some 12, some 13, some 14, some 15, some 16, some 17, some 18, some 19, some 20, some 21, some 22, some 23, some 24, some 25, some 26, some 27, some 28, some 29, some 30, some 31, some 32, some 33, some 34, some 35, some 36, some 37, some 38, some 39, some 40] rfl (fun listed hsz hr => Ord.all_listedC (rank := [0, 1, 2, 3, 4, 5, 6, 7, 8, 9, 10, 11, 12, 13, 14, 15, 16, 17, 18, 19, 20, 21, 22, 23, 24, 25, 26, 27, 28, 29, 30, 31, 32, 33, 34, 35, 36, 37]) (by kernel_rfl) hsz hr) (by rfl) (fun _ => rfl) (by kernel_rfl) (Rg.StM [1, 13, 14] (fun kA _ w' => Own w w' [(w.heap.size, #[.int .i64 c, .int .i64 s, .int .i64 p, .int .i64 m, .int .i64 k], 48)] ∧ At w w' (List.getD [[(w.heap.size, #[.int .i64 c, .int .i64 s, .int .i64 p, .int .i64 m, .int .i64 k], 48)], [(w.heap.size, #[.int .i64 c, .int .i64 s, .int .i64 p, .int .i64 m, .int .i64 k], 48)], [(w.heap.size + 5, #[.int .i64 m, .int .i64 c, .int .i64 k], 3), (w.heap.size, #[.int .i64 c, .int .i64 s, .int .i64 p, .int .i64 m, .int .i64 k], 48)], [(w.heap.size + 5, #[.int .i64 m, .int .i64 c, .int .i64 k], 3), (w.heap.size, #[.int .i64 c, .int .i64 s, .int .i64 p, .int .i64 m, .int .i64 k], 48)]] kA []) (List.getD [1, 5, 6, 6] kA 0))) (fun _ _ _ _ hL h => h.ext (n := 38) (by decide) hL) ?_ ?_ () ?_
  case refine_1 =>
    intro x Lq iq oq ac w' ho hi hcl hdep hF hW
    have f1 : ac.tmps.size = 41 := hF.1
    match iq, ho, hi, hdep with
    | 0, ho, hi, hdep =>
      cases ho
      have da0 : ac.eval (.tmp 1) = .pointer (some ⟨w.heap.size, 0, none⟩) := hF.old 1 rfl
      obtain ⟨kq, hlo, hhi, hA⟩ := hW.range 0 0 (.inl rfl) (.inr ⟨1, rfl, (Rg.no_of (fun h => hcl 1 _ rfl (h) ⟨0, .data⟩ (by simp) rfl) hi)⟩)
      obtain ⟨c0, c1, c2, c3, c4⟩ := cells5 hA.1 (.head _)
      exact Ord.ex_value x rfl rfl (Rg.load da0 rfl (by simp [go_sem, c0, c1, c2, c3, c4])) rfl (hW.keep (by decide))
    | 1, ho, hi, hdep =>
      cases ho
      have da0 : ac.eval (.tmp 3) = .agg #[.int .i64 c, .int .i64 s, .int .i64 p, .int .i64 m, .int .i64 k] := hF.2.2.2 0 3 _ rfl (hdep ⟨0, .data⟩ (by simp) rfl)
      have hA := hW.at (k := 0) rfl hi (.inl rfl)
      refine Rg.ex_call x rfl rfl (Rg.enter (args := #[.agg #[.int .i64 c, .int .i64 s, .int .i64 p, .int .i64 m, .int .i64 k]]) rfl rfl (by simp [da0]) EB.out) (Calls.mono (BD.out _) ?_)
      rintro e w2 ⟨rfl, hB, hs⟩
      exact ⟨rfl, hW.next (k := 0) rfl (by decide) hi (.inl rfl) (At.with (hA.2.grow hB hs) (by simp))⟩
    | 2, ho, hi, hdep =>
      cases ho
      have da0 : ac.eval (.tmp 4) = .bool true := hF.2.2.2 1 4 _ rfl (hdep ⟨1, .data⟩ (by simp) rfl)
      exact Ord.ex_value x rfl rfl (Rg.not_ da0 rfl) rfl (hW.keep (by decide))
    | 3, ho, hi, hdep =>
      cases ho
      have da0 : ac.eval (.tmp 5) = .bool false := hF.2.2.2 2 5 _ rfl (hdep ⟨2, .data⟩ (by simp) rfl)
      exact Ord.ex_value x rfl rfl (Rg.mv da0 rfl) rfl (hW.keep (by decide))
    | 4, ho, hi, hdep =>
      cases ho
      have dg : ac.eval (.tmp 6) = .bool false := hF.2.2.2 3 6 _ rfl (hdep ⟨3, .guard⟩ (by simp) rfl)
      have da0 : ac.eval (.tmp 1) = .pointer (some ⟨w.heap.size, 0, none⟩) := hF.old 1 rfl
      exact Ord.ex_value x rfl (Ord.wanted_of dg (by rw [f1]; decide) rfl rfl) (Rg.fa da0 rfl (by simp [go_sem])) rfl (hW.keep (by decide))
    | 5, ho, hi, hdep =>
      cases ho
      have dg : ac.eval (.tmp 6) = .bool false := hF.2.2.2 3 6 _ rfl (hdep ⟨3, .guard⟩ (by simp) rfl)
      have da0 : ac.eval (.tmp 7) = .pointer (some ⟨w.heap.size, 0, none⟩) := hF.2.2.2 4 7 _ rfl (hdep ⟨4, .data⟩ (by simp) rfl)
      exact Ord.ex_value x rfl (Ord.wanted_of dg (by rw [f1]; decide) rfl rfl) (Rg.fa da0 rfl (by simp [go_sem])) rfl (hW.keep (by decide))
    | 6, ho, hi, hdep =>
      cases ho
      have dg : ac.eval (.tmp 6) = .bool false := hF.2.2.2 3 6 _ rfl (hdep ⟨3, .guard⟩ (by simp) rfl)
      have da0 : ac.eval (.tmp 8) = .pointer (some ⟨w.heap.size, 3, none⟩) := hF.2.2.2 5 8 _ rfl (hdep ⟨5, .data⟩ (by simp) rfl)
      obtain ⟨kq, hlo, hhi, hA⟩ := hW.range 1 1 (.inr ⟨1, rfl, (hcl 3 _ rfl (hdep ⟨3, .guard⟩ (by simp) rfl) ⟨1, .chain⟩ (by simp) rfl)⟩) (.inr ⟨13, rfl, (Rg.no_of (fun h => hcl 13 _ rfl (h) ⟨6, .data⟩ (by simp) rfl) hi)⟩)
      obtain ⟨c0, c1, c2, c3, c4⟩ := cells5 hA.1 (.head _)
      exact Ord.ex_value x rfl (Ord.wanted_of dg (by rw [f1]; decide) rfl rfl) (Rg.load da0 rfl (by simp [go_sem, c3])) rfl (hW.keep (by decide))
    | 7, ho, hi, hdep =>
      cases ho
      have dg : ac.eval (.tmp 6) = .bool false := hF.2.2.2 3 6 _ rfl (hdep ⟨3, .guard⟩ (by simp) rfl)
      have da0 : ac.eval (.tmp 1) = .pointer (some ⟨w.heap.size, 0, none⟩) := hF.old 1 rfl
      exact Ord.ex_value x rfl (Ord.wanted_of dg (by rw [f1]; decide) rfl rfl) (Rg.fa da0 rfl (by simp [go_sem])) rfl (hW.keep (by decide))
    | 8, ho, hi, hdep =>
      cases ho
      have dg : ac.eval (.tmp 6) = .bool false := hF.2.2.2 3 6 _ rfl (hdep ⟨3, .guard⟩ (by simp) rfl)
      have da0 : ac.eval (.tmp 10) = .pointer (some ⟨w.heap.size, 0, none⟩) := hF.2.2.2 7 10 _ rfl (hdep ⟨7, .data⟩ (by simp) rfl)
      exact Ord.ex_value x rfl (Ord.wanted_of dg (by rw [f1]; decide) rfl rfl) (Rg.fa da0 rfl (by simp [go_sem])) rfl (hW.keep (by decide))
    | 9, ho, hi, hdep =>
      cases ho
      have dg : ac.eval (.tmp 6) = .bool false := hF.2.2.2 3 6 _ rfl (hdep ⟨3, .guard⟩ (by simp) rfl)
      have da0 : ac.eval (.tmp 11) = .pointer (some ⟨w.heap.size, 0, none⟩) := hF.2.2.2 8 11 _ rfl (hdep ⟨8, .data⟩ (by simp) rfl)
      obtain ⟨kq, hlo, hhi, hA⟩ := hW.range 1 1 (.inr ⟨1, rfl, (hcl 3 _ rfl (hdep ⟨3, .guard⟩ (by simp) rfl) ⟨1, .chain⟩ (by simp) rfl)⟩) (.inr ⟨13, rfl, (Rg.no_of (fun h => hcl 13 _ rfl (h) ⟨9, .data⟩ (by simp) rfl) hi)⟩)
      obtain ⟨c0, c1, c2, c3, c4⟩ := cells5 hA.1 (.head _)
      exact Ord.ex_value x rfl (Ord.wanted_of dg (by rw [f1]; decide) rfl rfl) (Rg.load da0 rfl (by simp [go_sem, c0])) rfl (hW.keep (by decide))
    | 10, ho, hi, hdep =>
      cases ho
      have dg : ac.eval (.tmp 6) = .bool false := hF.2.2.2 3 6 _ rfl (hdep ⟨3, .guard⟩ (by simp) rfl)
      have da0 : ac.eval (.tmp 1) = .pointer (some ⟨w.heap.size, 0, none⟩) := hF.old 1 rfl
      exact Ord.ex_value x rfl (Ord.wanted_of dg (by rw [f1]; decide) rfl rfl) (Rg.fa da0 rfl (by simp [go_sem])) rfl (hW.keep (by decide))
    | 11, ho, hi, hdep =>
      cases ho
      have dg : ac.eval (.tmp 6) = .bool false := hF.2.2.2 3 6 _ rfl (hdep ⟨3, .guard⟩ (by simp) rfl)
      have da0 : ac.eval (.tmp 13) = .pointer (some ⟨w.heap.size, 0, none⟩) := hF.2.2.2 10 13 _ rfl (hdep ⟨10, .data⟩ (by simp) rfl)
      exact Ord.ex_value x rfl (Ord.wanted_of dg (by rw [f1]; decide) rfl rfl) (Rg.fa da0 rfl (by simp [go_sem])) rfl (hW.keep (by decide))
    | 12, ho, hi, hdep =>
      cases ho
      have dg : ac.eval (.tmp 6) = .bool false := hF.2.2.2 3 6 _ rfl (hdep ⟨3, .guard⟩ (by simp) rfl)
      have da0 : ac.eval (.tmp 14) = .pointer (some ⟨w.heap.size, 4, none⟩) := hF.2.2.2 11 14 _ rfl (hdep ⟨11, .data⟩ (by simp) rfl)
      obtain ⟨kq, hlo, hhi, hA⟩ := hW.range 1 1 (.inr ⟨1, rfl, (hcl 3 _ rfl (hdep ⟨3, .guard⟩ (by simp) rfl) ⟨1, .chain⟩ (by simp) rfl)⟩) (.inr ⟨13, rfl, (Rg.no_of (fun h => hcl 13 _ rfl (h) ⟨12, .data⟩ (by simp) rfl) hi)⟩)
      obtain ⟨c0, c1, c2, c3, c4⟩ := cells5 hA.1 (.head _)
      exact Ord.ex_value x rfl (Ord.wanted_of dg (by rw [f1]; decide) rfl rfl) (Rg.load da0 rfl (by simp [go_sem, c4])) rfl (hW.keep (by decide))
    | 13, ho, hi, hdep =>
      cases ho
      have dg : ac.eval (.tmp 6) = .bool false := hF.2.2.2 3 6 _ rfl (hdep ⟨3, .guard⟩ (by simp) rfl)
      have da0 : ac.eval (.tmp 9) = .int .i64 m := hF.2.2.2 6 9 _ rfl (hdep ⟨6, .data⟩ (by simp) rfl)
      have da1 : ac.eval (.tmp 12) = .int .i64 c := hF.2.2.2 9 12 _ rfl (hdep ⟨9, .data⟩ (by simp) rfl)
      have da2 : ac.eval (.tmp 15) = .int .i64 k := hF.2.2.2 12 15 _ rfl (hdep ⟨12, .data⟩ (by simp) rfl)
      have hA := hW.at (k := 1) rfl hi (.inr ⟨1, rfl, (hcl 3 _ rfl (hdep ⟨3, .guard⟩ (by simp) rfl) ⟨1, .chain⟩ (by simp) rfl)⟩)
      exact Ord.ex_value x rfl (Ord.wanted_of dg (by rw [f1]; decide) rfl rfl) (Rg.bsl rfl (by simp [da0, da1, da2]) (bs3 hA.2.2 _ _ _)) rfl (hW.next (k := 1) rfl (by decide) hi (.inr ⟨1, rfl, (hcl 3 _ rfl (hdep ⟨3, .guard⟩ (by simp) rfl) ⟨1, .chain⟩ (by simp) rfl)⟩) (At.with (hA.2.more _ _) (by simp)))
    | 14, ho, hi, hdep =>
      cases ho
      have dg : ac.eval (.tmp 6) = .bool false := hF.2.2.2 3 6 _ rfl (hdep ⟨3, .guard⟩ (by simp) rfl)
      have da0 : ac.eval (.tmp 16) = .slice (some ⟨w.heap.size + 5, 0, none⟩) 3 3 := hF.2.2.2 13 16 _ rfl (hdep ⟨13, .data⟩ (by simp) rfl)
      have hA := hW.at (k := 2) rfl hi (.inr ⟨13, rfl, (hdep ⟨13, .data⟩ (by simp) rfl)⟩)
      refine Rg.ex_call x rfl (Ord.wanted_of dg (by rw [f1]; decide) rfl rfl) (Rg.enter (args := #[.slice (some ⟨w.heap.size + 5, 0, none⟩) 3 3]) rfl rfl (by simp [da0]) ER.out) (Calls.mono (R1.out _ _ (hA.2.1.has (.head _))) ?_)
      rintro e w2 ⟨rfl, hS⟩
      exact ⟨rfl, hW.next (k := 2) rfl (by decide) hi (.inr ⟨13, rfl, (hdep ⟨13, .data⟩ (by simp) rfl)⟩) (At.with (hA.2.same hS) (by simp))⟩
    | 15, ho, hi, hdep =>
      cases ho
      have dg : ac.eval (.tmp 6) = .bool false := hF.2.2.2 3 6 _ rfl (hdep ⟨3, .guard⟩ (by simp) rfl)
      have da0 : ac.eval (.tmp 17) = .bool false := hF.2.2.2 14 17 _ rfl (hdep ⟨14, .data⟩ (by simp) rfl)
      exact Ord.ex_value x rfl (Ord.wanted_of dg (by rw [f1]; decide) rfl rfl) (Rg.not_ da0 rfl) rfl (hW.keep (by decide))
    | 16, ho, hi, hdep =>
      cases ho
      have da0 : ac.eval (.tmp 6) = .bool false := hF.2.2.2 3 6 _ rfl (hdep ⟨3, .data⟩ (by simp) rfl)
      have da1 : ac.eval (.tmp 18) = .bool true := hF.2.2.2 15 18 _ rfl (hdep ⟨15, .data⟩ (by simp) rfl)
      exact Ord.ex_value x rfl rfl (Rg.pick_f da0 da1 rfl) rfl (hW.keep (by decide))
    | 17, ho, hi, hdep =>
      cases ho
      have da0 : ac.eval (.tmp 19) = .bool true := hF.2.2.2 16 19 _ rfl (hdep ⟨16, .data⟩ (by simp) rfl)
      exact Ord.ex_value x rfl rfl (Rg.mv da0 rfl) rfl (hW.keep (by decide))
    | 18, ho, hi, hdep =>
      cases ho
      have dg : ac.eval (.tmp 20) = .bool true := hF.2.2.2 17 20 _ rfl (hdep ⟨17, .guard⟩ (by simp) rfl)
      exact Cw.ex_not x rfl (Ord.wanted_no (bv := false) dg (by rw [f1]; decide) rfl rfl) rfl (hW.keep (by decide))
    | 19, ho, hi, hdep =>
      cases ho
      have dg : ac.eval (.tmp 20) = .bool true := hF.2.2.2 17 20 _ rfl (hdep ⟨17, .guard⟩ (by simp) rfl)
      exact Cw.ex_not x rfl (Ord.wanted_no (bv := false) dg (by rw [f1]; decide) rfl rfl) rfl (hW.keep (by decide))
    | 20, ho, hi, hdep =>
      cases ho
      have dg : ac.eval (.tmp 20) = .bool true := hF.2.2.2 17 20 _ rfl (hdep ⟨17, .guard⟩ (by simp) rfl)
      exact Cw.ex_not x rfl (Ord.wanted_no (bv := false) dg (by rw [f1]; decide) rfl rfl) rfl (hW.keep (by decide))
    | 21, ho, hi, hdep =>
      cases ho
      have dg : ac.eval (.tmp 20) = .bool true := hF.2.2.2 17 20 _ rfl (hdep ⟨17, .guard⟩ (by simp) rfl)
      exact Cw.ex_not x rfl (Ord.wanted_no (bv := false) dg (by rw [f1]; decide) rfl rfl) rfl (hW.keep (by decide))
    | 22, ho, hi, hdep =>
      cases ho
      have dg : ac.eval (.tmp 20) = .bool true := hF.2.2.2 17 20 _ rfl (hdep ⟨17, .guard⟩ (by simp) rfl)
      exact Cw.ex_not x rfl (Ord.wanted_no (bv := false) dg (by rw [f1]; decide) rfl rfl) rfl (hW.keep (by decide))
    | 23, ho, hi, hdep =>
      cases ho
      have dg : ac.eval (.tmp 20) = .bool true := hF.2.2.2 17 20 _ rfl (hdep ⟨17, .guard⟩ (by simp) rfl)
      exact Cw.ex_not x rfl (Ord.wanted_no (bv := false) dg (by rw [f1]; decide) rfl rfl) rfl (hW.keep (by decide))
    | 24, ho, hi, hdep =>
      cases ho
      have dg : ac.eval (.tmp 20) = .bool true := hF.2.2.2 17 20 _ rfl (hdep ⟨17, .guard⟩ (by simp) rfl)
      exact Cw.ex_not x rfl (Ord.wanted_no (bv := false) dg (by rw [f1]; decide) rfl rfl) rfl (hW.keep (by decide))
    | 25, ho, hi, hdep =>
      cases ho
      have dg : ac.eval (.tmp 20) = .bool true := hF.2.2.2 17 20 _ rfl (hdep ⟨17, .guard⟩ (by simp) rfl)
      exact Cw.ex_not x rfl (Ord.wanted_no (bv := false) dg (by rw [f1]; decide) rfl rfl) rfl (hW.keep (by decide))
    | 26, ho, hi, hdep =>
      cases ho
      have da0 : ac.eval (.tmp 20) = .bool true := hF.2.2.2 17 20 _ rfl (hdep ⟨17, .data⟩ (by simp) rfl)
      have da1 : ac.eval (.tmp 28) = undef := hF.2.2.2 25 28 _ rfl (hdep ⟨25, .data⟩ (by simp) rfl)
      exact Ord.ex_value x rfl rfl (Rg.pick_t da0 rfl rfl) rfl (hW.keep (by decide))
    | 27, ho, hi, hdep =>
      cases ho
      have da0 : ac.eval (.tmp 29) = .bool true := hF.2.2.2 26 29 _ rfl (hdep ⟨26, .data⟩ (by simp) rfl)
      exact Ord.ex_value x rfl rfl (Rg.mv da0 rfl) rfl (hW.keep (by decide))
    | 28, ho, hi, hdep =>
      cases ho
      have dg : ac.eval (.tmp 30) = .bool true := hF.2.2.2 27 30 _ rfl (hdep ⟨27, .guard⟩ (by simp) rfl)
      exact Cw.ex_not x rfl (Ord.wanted_no (bv := false) dg (by rw [f1]; decide) rfl rfl) rfl (hW.keep (by decide))
    | 29, ho, hi, hdep =>
      cases ho
      have dg : ac.eval (.tmp 30) = .bool true := hF.2.2.2 27 30 _ rfl (hdep ⟨27, .guard⟩ (by simp) rfl)
      exact Cw.ex_not x rfl (Ord.wanted_no (bv := false) dg (by rw [f1]; decide) rfl rfl) rfl (hW.keep (by decide))
    | 30, ho, hi, hdep =>
      cases ho
      have dg : ac.eval (.tmp 30) = .bool true := hF.2.2.2 27 30 _ rfl (hdep ⟨27, .guard⟩ (by simp) rfl)
      exact Cw.ex_not x rfl (Ord.wanted_no (bv := false) dg (by rw [f1]; decide) rfl rfl) rfl (hW.keep (by decide))
    | 31, ho, hi, hdep =>
      cases ho
      have dg : ac.eval (.tmp 30) = .bool true := hF.2.2.2 27 30 _ rfl (hdep ⟨27, .guard⟩ (by simp) rfl)
      exact Cw.ex_not x rfl (Ord.wanted_no (bv := false) dg (by rw [f1]; decide) rfl rfl) rfl (hW.keep (by decide))
    | 32, ho, hi, hdep =>
      cases ho
      have dg : ac.eval (.tmp 30) = .bool true := hF.2.2.2 27 30 _ rfl (hdep ⟨27, .guard⟩ (by simp) rfl)
      exact Cw.ex_not x rfl (Ord.wanted_no (bv := false) dg (by rw [f1]; decide) rfl rfl) rfl (hW.keep (by decide))
    | 33, ho, hi, hdep =>
      cases ho
      have dg : ac.eval (.tmp 30) = .bool true := hF.2.2.2 27 30 _ rfl (hdep ⟨27, .guard⟩ (by simp) rfl)
      exact Cw.ex_not x rfl (Ord.wanted_no (bv := false) dg (by rw [f1]; decide) rfl rfl) rfl (hW.keep (by decide))
    | 34, ho, hi, hdep =>
      cases ho
      have dg : ac.eval (.tmp 30) = .bool true := hF.2.2.2 27 30 _ rfl (hdep ⟨27, .guard⟩ (by simp) rfl)
      exact Cw.ex_not x rfl (Ord.wanted_no (bv := false) dg (by rw [f1]; decide) rfl rfl) rfl (hW.keep (by decide))
    | 35, ho, hi, hdep =>
      cases ho
      have dg : ac.eval (.tmp 30) = .bool true := hF.2.2.2 27 30 _ rfl (hdep ⟨27, .guard⟩ (by simp) rfl)
      exact Cw.ex_not x rfl (Ord.wanted_no (bv := false) dg (by rw [f1]; decide) rfl rfl) rfl (hW.keep (by decide))
    | 36, ho, hi, hdep =>
      cases ho
      have dg : ac.eval (.tmp 30) = .bool true := hF.2.2.2 27 30 _ rfl (hdep ⟨27, .guard⟩ (by simp) rfl)
      exact Cw.ex_not x rfl (Ord.wanted_no (bv := false) dg (by rw [f1]; decide) rfl rfl) rfl (hW.keep (by decide))
    | 37, ho, hi, hdep =>
      cases ho
      have da0 : ac.eval (.tmp 30) = .bool true := hF.2.2.2 27 30 _ rfl (hdep ⟨27, .data⟩ (by simp) rfl)
      have da1 : ac.eval (.tmp 39) = undef := hF.2.2.2 36 39 _ rfl (hdep ⟨36, .data⟩ (by simp) rfl)
      exact Ord.ex_value x rfl rfl (Rg.pick_t da0 rfl rfl) rfl (hW.keep (by decide))
  case refine_2 =>
    intro x w' hW
    have hw := hidden hW.last.2
    clear hW
    simp only [Ord.puts, Ord.prs]
    go_simp
    go_wp2
    go_ret
    exact ⟨rfl, hw.out.below⟩
  case refine_3 => exact Rg.StM.first (At.with ((At.zero w).more _ _).drew (by simp))
set_option maxHeartbeats 1000000 in
theorem check2 (c s p m k : Int) (w : World) (h : bndP m k) (h1 : m ≤ c ∧ c ≤ k) (h2 : ¬ (4 * m ≤ s ∧ s ≤ 1073741824)) : Calls Try.prog 41 #[.agg #[.int .i64 c, .int .i64 s, .int .i64 p, .int .i64 m, .int .i64 k]] w fun e w' => e = .returned (.int .i64 120) ∧ Below w.heap.size w w' := by
  have BD := hidden (fun W => bounded_ok c s p h W)
  have EB : Hid (∀ (args : Array Value) (w : World), (callFunc 38 args).run Try.prog w = .ok (.enter 38 args) w) := enters_of Try.func38 (by kernel_rfl) rfl
  have ER : Hid (∀ (args : Array Value) (w : World), (callFunc 42 args).run Try.prog w = .ok (.enter 42 args) w) := enters_of Try.func42 (by kernel_rfl) rfl
  have EL : Hid (∀ (args : Array Value) (w : World), (callFunc 39 args).run Try.prog w = .ok (.enter 39 args) w) := enters_of Try.func39 (by kernel_rfl) rfl
  have LO := hidden (fun W => low c s p m k W h.1)
  have R1 : Hid (∀ W b, Has W b #[.int .i64 m, .int .i64 c, .int .i64 k] 3 → Calls Try.prog 42 #[.slice (some ⟨b, 0, none⟩) 3 3] W fun e w' => e = .returned (.bool true) ∧ Sm W w') := fun W b h => by
    have := rise3 h
    rw [decide_eq_true (show m ≤ c ∧ c ≤ k from h1)] at this
    exact this
  have R2 : Hid (∀ W b, Has W b #[.int .i64 (4 * m), .int .i64 s, .int .i64 1073741824] 3 → Calls Try.prog 42 #[.slice (some ⟨b, 0, none⟩) 3 3] W fun e w' => e = .returned (.bool false) ∧ Sm W w') := fun W b h => by
    have := rise3 h
    rw [decide_eq_false (show ¬ (4 * m ≤ s ∧ s ≤ 1073741824) from h2)] at this
    exact this
  clear h h1 h2
  go_enter Try.func41, Try.ntmps41
  go_upto_region 1 with fail
  refine Ord.wp_region_ex0 (X := Unit) (by kernel_rfl) 41 (fun x => [(some 3, .agg #[.int .i64 c, .int .i64 s, .int .i64 p, .int .i64 m, .int .i64 k]), (some 4, .bool true), (some 5, .bool false), (some 6, .bool false), (some 7, .pointer (some ⟨w.heap.size, 0, none⟩)), (some 8, .pointer (some ⟨w.heap.size, 3, none⟩)), (some 9, .int .i64 m), (some 10, .pointer (some ⟨w.heap.size, 0, none⟩)), (some 11, .pointer (some ⟨w.heap.size, 0, none⟩)), (some 12, .int .i64 c), (some 13, .pointer (some ⟨w.heap.size, 0, none⟩)), (some 14, .pointer (some ⟨w.heap.size, 4, none⟩)), (some 15, .int .i64 k), (some 16, .slice (some ⟨w.heap.size + 5, 0, none⟩) 3 3), (some 17, .bool true), (some 18, .bool false), (some 19, .bool false), (some 20, .bool false), (some 21, .agg #[.int .i64 c, .int .i64 s, .int .i64 p, .int .i64 m, .int .i64 k]), (some 22, .int .i64 (4 * m)), (some 23, .pointer (some ⟨w.heap.size, 0, none⟩)), (some 24, .pointer (some ⟨w.heap.size, 1, none⟩)), (some 25, .int .i64 s), (some 26, .slice (some ⟨w.heap.size + 7, 0, none⟩) 3 3), (some 27, .bool false), (some 28, .bool true), (some 29, .bool true), (some 30, .bool true), (some 31, undef), (some 32, undef), (some 33, undef), (some 34, undef), (some 35, undef), (some 36, undef), (some 37, undef), (some 38, undef), (some 39, undef), (some 40, .bool true)]) [some 3, some 4, some 5, some 6, some 7, some 8, some 9, some 10, some 11, some 12, some 13, some 14, some 15, some 16, some 17, some 18, some 19, some 20, some 21, some 22, some 23, some 24, some 25, some 26, some 27, some 28, some 29, some 30, some 31, some 32, some 33, some 34, some 35, some 36, some 37, some 38, some 39, some 40] rfl (fun listed hsz hr => Ord.all_listedC (rank := [0, 1, 2, 3, 4, 5, 6, 7, 8, 9, 10, 11, 12, 13, 14, 15, 16, 17, 18, 19, 20, 21, 22, 23, 24, 25, 26, 27, 28, 29, 30, 31, 32, 33, 34, 35, 36, 37]) (by kernel_rfl) hsz hr) (by rfl) (fun _ => rfl) (by kernel_rfl) (Rg.StM [1, 13, 14, 19, 23, 24] (fun kA _ w' => Own w w' [(w.heap.size, #[.int .i64 c, .int .i64 s, .int .i64 p, .int .i64 m, .int .i64 k], 48)] ∧ At w w' (List.getD [[(w.heap.size, #[.int .i64 c, .int .i64 s, .int .i64 p, .int .i64 m, .int .i64 k], 48)], [(w.heap.size, #[.int .i64 c, .int .i64 s, .int .i64 p, .int .i64 m, .int .i64 k], 48)], [(w.heap.size + 5, #[.int .i64 m, .int .i64 c, .int .i64 k], 3), (w.heap.size, #[.int .i64 c, .int .i64 s, .int .i64 p, .int .i64 m, .int .i64 k], 48)], [(w.heap.size + 5, #[.int .i64 m, .int .i64 c, .int .i64 k], 3), (w.heap.size, #[.int .i64 c, .int .i64 s, .int .i64 p, .int .i64 m, .int .i64 k], 48)], [(w.heap.size + 5, #[.int .i64 m, .int .i64 c, .int .i64 k], 3), (w.heap.size, #[.int .i64 c, .int .i64 s, .int .i64 p, .int .i64 m, .int .i64 k], 48)], [(w.heap.size + 7, #[.int .i64 (4 * m), .int .i64 s, .int .i64 1073741824], 3), (w.heap.size + 5, #[.int .i64 m, .int .i64 c, .int .i64 k], 3), (w.heap.size, #[.int .i64 c, .int .i64 s, .int .i64 p, .int .i64 m, .int .i64 k], 48)], [(w.heap.size + 7, #[.int .i64 (4 * m), .int .i64 s, .int .i64 1073741824], 3), (w.heap.size + 5, #[.int .i64 m, .int .i64 c, .int .i64 k], 3), (w.heap.size, #[.int .i64 c, .int .i64 s, .int .i64 p, .int .i64 m, .int .i64 k], 48)]] kA []) (List.getD [1, 5, 6, 6, 7, 8, 8] kA 0))) (fun _ _ _ _ hL h => h.ext (n := 38) (by decide) hL) ?_ ?_ () ?_
  case refine_1 =>
    intro x Lq iq oq ac w' ho hi hcl hdep hF hW
    have f1 : ac.tmps.size = 41 := hF.1
    match iq, ho, hi, hdep with
    | 0, ho, hi, hdep =>
      cases ho
      have da0 : ac.eval (.tmp 1) = .pointer (some ⟨w.heap.size, 0, none⟩) := hF.old 1 rfl
      obtain ⟨kq, hlo, hhi, hA⟩ := hW.range 0 0 (.inl rfl) (.inr ⟨1, rfl, (Rg.no_of (fun h => hcl 1 _ rfl (h) ⟨0, .data⟩ (by simp) rfl) hi)⟩)
      obtain ⟨c0, c1, c2, c3, c4⟩ := cells5 hA.1 (.head _)
      exact Ord.ex_value x rfl rfl (Rg.load da0 rfl (by simp [go_sem, c0, c1, c2, c3, c4])) rfl (hW.keep (by decide))
    | 1, ho, hi, hdep =>
      cases ho
      have da0 : ac.eval (.tmp 3) = .agg #[.int .i64 c, .int .i64 s, .int .i64 p, .int .i64 m, .int .i64 k] := hF.2.2.2 0 3 _ rfl (hdep ⟨0, .data⟩ (by simp) rfl)
      have hA := hW.at (k := 0) rfl hi (.inl rfl)
      refine Rg.ex_call x rfl rfl (Rg.enter (args := #[.agg #[.int .i64 c, .int .i64 s, .int .i64 p, .int .i64 m, .int .i64 k]]) rfl rfl (by simp [da0]) EB.out) (Calls.mono (BD.out _) ?_)
      rintro e w2 ⟨rfl, hB, hs⟩
      exact ⟨rfl, hW.next (k := 0) rfl (by decide) hi (.inl rfl) (At.with (hA.2.grow hB hs) (by simp))⟩
    | 2, ho, hi, hdep =>
      cases ho
      have da0 : ac.eval (.tmp 4) = .bool true := hF.2.2.2 1 4 _ rfl (hdep ⟨1, .data⟩ (by simp) rfl)
      exact Ord.ex_value x rfl rfl (Rg.not_ da0 rfl) rfl (hW.keep (by decide))
    | 3, ho, hi, hdep =>
      cases ho
      have da0 : ac.eval (.tmp 5) = .bool false := hF.2.2.2 2 5 _ rfl (hdep ⟨2, .data⟩ (by simp) rfl)
      exact Ord.ex_value x rfl rfl (Rg.mv da0 rfl) rfl (hW.keep (by decide))
    | 4, ho, hi, hdep =>
      cases ho
      have dg : ac.eval (.tmp 6) = .bool false := hF.2.2.2 3 6 _ rfl (hdep ⟨3, .guard⟩ (by simp) rfl)
      have da0 : ac.eval (.tmp 1) = .pointer (some ⟨w.heap.size, 0, none⟩) := hF.old 1 rfl
      exact Ord.ex_value x rfl (Ord.wanted_of dg (by rw [f1]; decide) rfl rfl) (Rg.fa da0 rfl (by simp [go_sem])) rfl (hW.keep (by decide))
    | 5, ho, hi, hdep =>
      cases ho
      have dg : ac.eval (.tmp 6) = .bool false := hF.2.2.2 3 6 _ rfl (hdep ⟨3, .guard⟩ (by simp) rfl)
      have da0 : ac.eval (.tmp 7) = .pointer (some ⟨w.heap.size, 0, none⟩) := hF.2.2.2 4 7 _ rfl (hdep ⟨4, .data⟩ (by simp) rfl)
      exact Ord.ex_value x rfl (Ord.wanted_of dg (by rw [f1]; decide) rfl rfl) (Rg.fa da0 rfl (by simp [go_sem])) rfl (hW.keep (by decide))
    | 6, ho, hi, hdep =>
      cases ho
      have dg : ac.eval (.tmp 6) = .bool false := hF.2.2.2 3 6 _ rfl (hdep ⟨3, .guard⟩ (by simp) rfl)
      have da0 : ac.eval (.tmp 8) = .pointer (some ⟨w.heap.size, 3, none⟩) := hF.2.2.2 5 8 _ rfl (hdep ⟨5, .data⟩ (by simp) rfl)
      obtain ⟨kq, hlo, hhi, hA⟩ := hW.range 1 1 (.inr ⟨1, rfl, (hcl 3 _ rfl (hdep ⟨3, .guard⟩ (by simp) rfl) ⟨1, .chain⟩ (by simp) rfl)⟩) (.inr ⟨13, rfl, (Rg.no_of (fun h => hcl 13 _ rfl (h) ⟨6, .data⟩ (by simp) rfl) hi)⟩)
      obtain ⟨c0, c1, c2, c3, c4⟩ := cells5 hA.1 (.head _)
      exact Ord.ex_value x rfl (Ord.wanted_of dg (by rw [f1]; decide) rfl rfl) (Rg.load da0 rfl (by simp [go_sem, c3])) rfl (hW.keep (by decide))
    | 7, ho, hi, hdep =>
      cases ho
      have dg : ac.eval (.tmp 6) = .bool false := hF.2.2.2 3 6 _ rfl (hdep ⟨3, .guard⟩ (by simp) rfl)
      have da0 : ac.eval (.tmp 1) = .pointer (some ⟨w.heap.size, 0, none⟩) := hF.old 1 rfl
      exact Ord.ex_value x rfl (Ord.wanted_of dg (by rw [f1]; decide) rfl rfl) (Rg.fa da0 rfl (by simp [go_sem])) rfl (hW.keep (by decide))
    | 8, ho, hi, hdep =>
      cases ho
      have dg : ac.eval (.tmp 6) = .bool false := hF.2.2.2 3 6 _ rfl (hdep ⟨3, .guard⟩ (by simp) rfl)
      have da0 : ac.eval (.tmp 10) = .pointer (some ⟨w.heap.size, 0, none⟩) := hF.2.2.2 7 10 _ rfl (hdep ⟨7, .data⟩ (by simp) rfl)
      exact Ord.ex_value x rfl (Ord.wanted_of dg (by rw [f1]; decide) rfl rfl) (Rg.fa da0 rfl (by simp [go_sem])) rfl (hW.keep (by decide))
    | 9, ho, hi, hdep =>
      cases ho
      have dg : ac.eval (.tmp 6) = .bool false := hF.2.2.2 3 6 _ rfl (hdep ⟨3, .guard⟩ (by simp) rfl)
      have da0 : ac.eval (.tmp 11) = .pointer (some ⟨w.heap.size, 0, none⟩) := hF.2.2.2 8 11 _ rfl (hdep ⟨8, .data⟩ (by simp) rfl)
      obtain ⟨kq, hlo, hhi, hA⟩ := hW.range 1 1 (.inr ⟨1, rfl, (hcl 3 _ rfl (hdep ⟨3, .guard⟩ (by simp) rfl) ⟨1, .chain⟩ (by simp) rfl)⟩) (.inr ⟨13, rfl, (Rg.no_of (fun h => hcl 13 _ rfl (h) ⟨9, .data⟩ (by simp) rfl) hi)⟩)
      obtain ⟨c0, c1, c2, c3, c4⟩ := cells5 hA.1 (.head _)
      exact Ord.ex_value x rfl (Ord.wanted_of dg (by rw [f1]; decide) rfl rfl) (Rg.load da0 rfl (by simp [go_sem, c0])) rfl (hW.keep (by decide))
    | 10, ho, hi, hdep =>
      cases ho
      have dg : ac.eval (.tmp 6) = .bool false := hF.2.2.2 3 6 _ rfl (hdep ⟨3, .guard⟩ (by simp) rfl)
      have da0 : ac.eval (.tmp 1) = .pointer (some ⟨w.heap.size, 0, none⟩) := hF.old 1 rfl
      exact Ord.ex_value x rfl (Ord.wanted_of dg (by rw [f1]; decide) rfl rfl) (Rg.fa da0 rfl (by simp [go_sem])) rfl (hW.keep (by decide))
    | 11, ho, hi, hdep =>
      cases ho
      have dg : ac.eval (.tmp 6) = .bool false := hF.2.2.2 3 6 _ rfl (hdep ⟨3, .guard⟩ (by simp) rfl)
      have da0 : ac.eval (.tmp 13) = .pointer (some ⟨w.heap.size, 0, none⟩) := hF.2.2.2 10 13 _ rfl (hdep ⟨10, .data⟩ (by simp) rfl)
      exact Ord.ex_value x rfl (Ord.wanted_of dg (by rw [f1]; decide) rfl rfl) (Rg.fa da0 rfl (by simp [go_sem])) rfl (hW.keep (by decide))
    | 12, ho, hi, hdep =>
      cases ho
      have dg : ac.eval (.tmp 6) = .bool false := hF.2.2.2 3 6 _ rfl (hdep ⟨3, .guard⟩ (by simp) rfl)
      have da0 : ac.eval (.tmp 14) = .pointer (some ⟨w.heap.size, 4, none⟩) := hF.2.2.2 11 14 _ rfl (hdep ⟨11, .data⟩ (by simp) rfl)
      obtain ⟨kq, hlo, hhi, hA⟩ := hW.range 1 1 (.inr ⟨1, rfl, (hcl 3 _ rfl (hdep ⟨3, .guard⟩ (by simp) rfl) ⟨1, .chain⟩ (by simp) rfl)⟩) (.inr ⟨13, rfl, (Rg.no_of (fun h => hcl 13 _ rfl (h) ⟨12, .data⟩ (by simp) rfl) hi)⟩)
      obtain ⟨c0, c1, c2, c3, c4⟩ := cells5 hA.1 (.head _)
      exact Ord.ex_value x rfl (Ord.wanted_of dg (by rw [f1]; decide) rfl rfl) (Rg.load da0 rfl (by simp [go_sem, c4])) rfl (hW.keep (by decide))
    | 13, ho, hi, hdep =>
      cases ho
      have dg : ac.eval (.tmp 6) = .bool false := hF.2.2.2 3 6 _ rfl (hdep ⟨3, .guard⟩ (by simp) rfl)
      have da0 : ac.eval (.tmp 9) = .int .i64 m := hF.2.2.2 6 9 _ rfl (hdep ⟨6, .data⟩ (by simp) rfl)
      have da1 : ac.eval (.tmp 12) = .int .i64 c := hF.2.2.2 9 12 _ rfl (hdep ⟨9, .data⟩ (by simp) rfl)
      have da2 : ac.eval (.tmp 15) = .int .i64 k := hF.2.2.2 12 15 _ rfl (hdep ⟨12, .data⟩ (by simp) rfl)
      have hA := hW.at (k := 1) rfl hi (.inr ⟨1, rfl, (hcl 3 _ rfl (hdep ⟨3, .guard⟩ (by simp) rfl) ⟨1, .chain⟩ (by simp) rfl)⟩)
      exact Ord.ex_value x rfl (Ord.wanted_of dg (by rw [f1]; decide) rfl rfl) (Rg.bsl rfl (by simp [da0, da1, da2]) (bs3 hA.2.2 _ _ _)) rfl (hW.next (k := 1) rfl (by decide) hi (.inr ⟨1, rfl, (hcl 3 _ rfl (hdep ⟨3, .guard⟩ (by simp) rfl) ⟨1, .chain⟩ (by simp) rfl)⟩) (At.with (hA.2.more _ _) (by simp)))
    | 14, ho, hi, hdep =>
      cases ho
      have dg : ac.eval (.tmp 6) = .bool false := hF.2.2.2 3 6 _ rfl (hdep ⟨3, .guard⟩ (by simp) rfl)
      have da0 : ac.eval (.tmp 16) = .slice (some ⟨w.heap.size + 5, 0, none⟩) 3 3 := hF.2.2.2 13 16 _ rfl (hdep ⟨13, .data⟩ (by simp) rfl)
      have hA := hW.at (k := 2) rfl hi (.inr ⟨13, rfl, (hdep ⟨13, .data⟩ (by simp) rfl)⟩)
      refine Rg.ex_call x rfl (Ord.wanted_of dg (by rw [f1]; decide) rfl rfl) (Rg.enter (args := #[.slice (some ⟨w.heap.size + 5, 0, none⟩) 3 3]) rfl rfl (by simp [da0]) ER.out) (Calls.mono (R1.out _ _ (hA.2.1.has (.head _))) ?_)
      rintro e w2 ⟨rfl, hS⟩
      exact ⟨rfl, hW.next (k := 2) rfl (by decide) hi (.inr ⟨13, rfl, (hdep ⟨13, .data⟩ (by simp) rfl)⟩) (At.with (hA.2.same hS) (by simp))⟩
    | 15, ho, hi, hdep =>
      cases ho
      have dg : ac.eval (.tmp 6) = .bool false := hF.2.2.2 3 6 _ rfl (hdep ⟨3, .guard⟩ (by simp) rfl)
      have da0 : ac.eval (.tmp 17) = .bool true := hF.2.2.2 14 17 _ rfl (hdep ⟨14, .data⟩ (by simp) rfl)
      exact Ord.ex_value x rfl (Ord.wanted_of dg (by rw [f1]; decide) rfl rfl) (Rg.not_ da0 rfl) rfl (hW.keep (by decide))
    | 16, ho, hi, hdep =>
      cases ho
      have da0 : ac.eval (.tmp 6) = .bool false := hF.2.2.2 3 6 _ rfl (hdep ⟨3, .data⟩ (by simp) rfl)
      have da1 : ac.eval (.tmp 18) = .bool false := hF.2.2.2 15 18 _ rfl (hdep ⟨15, .data⟩ (by simp) rfl)
      exact Ord.ex_value x rfl rfl (Rg.pick_f da0 da1 rfl) rfl (hW.keep (by decide))
    | 17, ho, hi, hdep =>
      cases ho
      have da0 : ac.eval (.tmp 19) = .bool false := hF.2.2.2 16 19 _ rfl (hdep ⟨16, .data⟩ (by simp) rfl)
      exact Ord.ex_value x rfl rfl (Rg.mv da0 rfl) rfl (hW.keep (by decide))
    | 18, ho, hi, hdep =>
      cases ho
      have dg : ac.eval (.tmp 20) = .bool false := hF.2.2.2 17 20 _ rfl (hdep ⟨17, .guard⟩ (by simp) rfl)
      have da0 : ac.eval (.tmp 1) = .pointer (some ⟨w.heap.size, 0, none⟩) := hF.old 1 rfl
      obtain ⟨kq, hlo, hhi, hA⟩ := hW.range 3 3 (.inr ⟨14, rfl, (hcl 17 _ rfl (hdep ⟨17, .guard⟩ (by simp) rfl) ⟨14, .chain⟩ (by simp) rfl)⟩) (.inr ⟨19, rfl, (Rg.no_of (fun h => hcl 19 _ rfl (h) ⟨18, .data⟩ (by simp) rfl) hi)⟩)
      obtain ⟨c0, c1, c2, c3, c4⟩ := cells5 hA.1 (.head _)
      exact Ord.ex_value x rfl (Ord.wanted_of dg (by rw [f1]; decide) rfl rfl) (Rg.load da0 rfl (by simp [go_sem, c0, c1, c2, c3, c4])) rfl (hW.keep (by decide))
    | 19, ho, hi, hdep =>
      cases ho
      have dg : ac.eval (.tmp 20) = .bool false := hF.2.2.2 17 20 _ rfl (hdep ⟨17, .guard⟩ (by simp) rfl)
      have da0 : ac.eval (.tmp 21) = .agg #[.int .i64 c, .int .i64 s, .int .i64 p, .int .i64 m, .int .i64 k] := hF.2.2.2 18 21 _ rfl (hdep ⟨18, .data⟩ (by simp) rfl)
      have hA := hW.at (k := 3) rfl hi (.inr ⟨14, rfl, (hcl 17 _ rfl (hdep ⟨17, .chain⟩ (by simp) rfl) ⟨14, .chain⟩ (by simp) rfl)⟩)
      refine Rg.ex_call x rfl (Ord.wanted_of dg (by rw [f1]; decide) rfl rfl) (Rg.enter (args := #[.agg #[.int .i64 c, .int .i64 s, .int .i64 p, .int .i64 m, .int .i64 k]]) rfl rfl (by simp [da0]) EL.out) (Calls.mono (LO.out _) ?_)
      rintro e w2 ⟨rfl, rfl⟩
      exact ⟨rfl, hW.next (k := 3) rfl (by decide) hi (.inr ⟨14, rfl, (hcl 17 _ rfl (hdep ⟨17, .chain⟩ (by simp) rfl) ⟨14, .chain⟩ (by simp) rfl)⟩) (At.with (hA.2.also _ _) (by simp))⟩
    | 20, ho, hi, hdep =>
      cases ho
      have dg : ac.eval (.tmp 20) = .bool false := hF.2.2.2 17 20 _ rfl (hdep ⟨17, .guard⟩ (by simp) rfl)
      have da0 : ac.eval (.tmp 1) = .pointer (some ⟨w.heap.size, 0, none⟩) := hF.old 1 rfl
      exact Ord.ex_value x rfl (Ord.wanted_of dg (by rw [f1]; decide) rfl rfl) (Rg.fa da0 rfl (by simp [go_sem])) rfl (hW.keep (by decide))
    | 21, ho, hi, hdep =>
      cases ho
      have dg : ac.eval (.tmp 20) = .bool false := hF.2.2.2 17 20 _ rfl (hdep ⟨17, .guard⟩ (by simp) rfl)
      have da0 : ac.eval (.tmp 23) = .pointer (some ⟨w.heap.size, 0, none⟩) := hF.2.2.2 20 23 _ rfl (hdep ⟨20, .data⟩ (by simp) rfl)
      exact Ord.ex_value x rfl (Ord.wanted_of dg (by rw [f1]; decide) rfl rfl) (Rg.fa da0 rfl (by simp [go_sem])) rfl (hW.keep (by decide))
    | 22, ho, hi, hdep =>
      cases ho
      have dg : ac.eval (.tmp 20) = .bool false := hF.2.2.2 17 20 _ rfl (hdep ⟨17, .guard⟩ (by simp) rfl)
      have da0 : ac.eval (.tmp 24) = .pointer (some ⟨w.heap.size, 1, none⟩) := hF.2.2.2 21 24 _ rfl (hdep ⟨21, .data⟩ (by simp) rfl)
      obtain ⟨kq, hlo, hhi, hA⟩ := hW.range 3 4 (.inr ⟨14, rfl, (hcl 17 _ rfl (hdep ⟨17, .guard⟩ (by simp) rfl) ⟨14, .chain⟩ (by simp) rfl)⟩) (.inr ⟨23, rfl, (Rg.no_of (fun h => hcl 23 _ rfl (h) ⟨22, .data⟩ (by simp) rfl) hi)⟩)
      obtain ⟨c0, c1, c2, c3, c4⟩ := cells5 hA.1 (.head _)
      exact Ord.ex_value x rfl (Ord.wanted_of dg (by rw [f1]; decide) rfl rfl) (Rg.load da0 rfl (by simp [go_sem, c1])) rfl (hW.keep (by decide))
    | 23, ho, hi, hdep =>
      cases ho
      have dg : ac.eval (.tmp 20) = .bool false := hF.2.2.2 17 20 _ rfl (hdep ⟨17, .guard⟩ (by simp) rfl)
      have da0 : ac.eval (.tmp 22) = .int .i64 (4 * m) := hF.2.2.2 19 22 _ rfl (hdep ⟨19, .data⟩ (by simp) rfl)
      have da1 : ac.eval (.tmp 25) = .int .i64 s := hF.2.2.2 22 25 _ rfl (hdep ⟨22, .data⟩ (by simp) rfl)
      have hA := hW.at (k := 4) rfl hi (.inr ⟨19, rfl, (hdep ⟨19, .data⟩ (by simp) rfl)⟩)
      exact Ord.ex_value x rfl (Ord.wanted_of dg (by rw [f1]; decide) rfl rfl) (Rg.bsl rfl (by simp [da0, da1, ev_const]) (bs3 hA.2.2 _ _ _)) rfl (hW.next (k := 4) rfl (by decide) hi (.inr ⟨19, rfl, (hdep ⟨19, .data⟩ (by simp) rfl)⟩) (At.with (hA.2.more _ _) (by simp)))
    | 24, ho, hi, hdep =>
      cases ho
      have dg : ac.eval (.tmp 20) = .bool false := hF.2.2.2 17 20 _ rfl (hdep ⟨17, .guard⟩ (by simp) rfl)
      have da0 : ac.eval (.tmp 26) = .slice (some ⟨w.heap.size + 7, 0, none⟩) 3 3 := hF.2.2.2 23 26 _ rfl (hdep ⟨23, .data⟩ (by simp) rfl)
      have hA := hW.at (k := 5) rfl hi (.inr ⟨23, rfl, (hdep ⟨23, .data⟩ (by simp) rfl)⟩)
      refine Rg.ex_call x rfl (Ord.wanted_of dg (by rw [f1]; decide) rfl rfl) (Rg.enter (args := #[.slice (some ⟨w.heap.size + 7, 0, none⟩) 3 3]) rfl rfl (by simp [da0]) ER.out) (Calls.mono (R2.out _ _ (hA.2.1.has (.head _))) ?_)
      rintro e w2 ⟨rfl, hS⟩
      exact ⟨rfl, hW.next (k := 5) rfl (by decide) hi (.inr ⟨23, rfl, (hdep ⟨23, .data⟩ (by simp) rfl)⟩) (At.with (hA.2.same hS) (by simp))⟩
    | 25, ho, hi, hdep =>
      cases ho
      have dg : ac.eval (.tmp 20) = .bool false := hF.2.2.2 17 20 _ rfl (hdep ⟨17, .guard⟩ (by simp) rfl)
      have da0 : ac.eval (.tmp 27) = .bool false := hF.2.2.2 24 27 _ rfl (hdep ⟨24, .data⟩ (by simp) rfl)
      exact Ord.ex_value x rfl (Ord.wanted_of dg (by rw [f1]; decide) rfl rfl) (Rg.not_ da0 rfl) rfl (hW.keep (by decide))
    | 26, ho, hi, hdep =>
      cases ho
      have da0 : ac.eval (.tmp 20) = .bool false := hF.2.2.2 17 20 _ rfl (hdep ⟨17, .data⟩ (by simp) rfl)
      have da1 : ac.eval (.tmp 28) = .bool true := hF.2.2.2 25 28 _ rfl (hdep ⟨25, .data⟩ (by simp) rfl)
      exact Ord.ex_value x rfl rfl (Rg.pick_f da0 da1 rfl) rfl (hW.keep (by decide))
    | 27, ho, hi, hdep =>
      cases ho
      have da0 : ac.eval (.tmp 29) = .bool true := hF.2.2.2 26 29 _ rfl (hdep ⟨26, .data⟩ (by simp) rfl)
      exact Ord.ex_value x rfl rfl (Rg.mv da0 rfl) rfl (hW.keep (by decide))
    | 28, ho, hi, hdep =>
      cases ho
      have dg : ac.eval (.tmp 30) = .bool true := hF.2.2.2 27 30 _ rfl (hdep ⟨27, .guard⟩ (by simp) rfl)
      exact Cw.ex_not x rfl (Ord.wanted_no (bv := false) dg (by rw [f1]; decide) rfl rfl) rfl (hW.keep (by decide))
    | 29, ho, hi, hdep =>
      cases ho
      have dg : ac.eval (.tmp 30) = .bool true := hF.2.2.2 27 30 _ rfl (hdep ⟨27, .guard⟩ (by simp) rfl)
      exact Cw.ex_not x rfl (Ord.wanted_no (bv := false) dg (by rw [f1]; decide) rfl rfl) rfl (hW.keep (by decide))
    | 30, ho, hi, hdep =>
      cases ho
      have dg : ac.eval (.tmp 30) = .bool true := hF.2.2.2 27 30 _ rfl (hdep ⟨27, .guard⟩ (by simp) rfl)
      exact Cw.ex_not x rfl (Ord.wanted_no (bv := false) dg (by rw [f1]; decide) rfl rfl) rfl (hW.keep (by decide))
    | 31, ho, hi, hdep =>
      cases ho
      have dg : ac.eval (.tmp 30) = .bool true := hF.2.2.2 27 30 _ rfl (hdep ⟨27, .guard⟩ (by simp) rfl)
      exact Cw.ex_not x rfl (Ord.wanted_no (bv := false) dg (by rw [f1]; decide) rfl rfl) rfl (hW.keep (by decide))
    | 32, ho, hi, hdep =>
      cases ho
      have dg : ac.eval (.tmp 30) = .bool true := hF.2.2.2 27 30 _ rfl (hdep ⟨27, .guard⟩ (by simp) rfl)
      exact Cw.ex_not x rfl (Ord.wanted_no (bv := false) dg (by rw [f1]; decide) rfl rfl) rfl (hW.keep (by decide))
    | 33, ho, hi, hdep =>
      cases ho
      have dg : ac.eval (.tmp 30) = .bool true := hF.2.2.2 27 30 _ rfl (hdep ⟨27, .guard⟩ (by simp) rfl)
      exact Cw.ex_not x rfl (Ord.wanted_no (bv := false) dg (by rw [f1]; decide) rfl rfl) rfl (hW.keep (by decide))
    | 34, ho, hi, hdep =>
      cases ho
      have dg : ac.eval (.tmp 30) = .bool true := hF.2.2.2 27 30 _ rfl (hdep ⟨27, .guard⟩ (by simp) rfl)
      exact Cw.ex_not x rfl (Ord.wanted_no (bv := false) dg (by rw [f1]; decide) rfl rfl) rfl (hW.keep (by decide))
    | 35, ho, hi, hdep =>
      cases ho
      have dg : ac.eval (.tmp 30) = .bool true := hF.2.2.2 27 30 _ rfl (hdep ⟨27, .guard⟩ (by simp) rfl)
      exact Cw.ex_not x rfl (Ord.wanted_no (bv := false) dg (by rw [f1]; decide) rfl rfl) rfl (hW.keep (by decide))
    | 36, ho, hi, hdep =>
      cases ho
      have dg : ac.eval (.tmp 30) = .bool true := hF.2.2.2 27 30 _ rfl (hdep ⟨27, .guard⟩ (by simp) rfl)
      exact Cw.ex_not x rfl (Ord.wanted_no (bv := false) dg (by rw [f1]; decide) rfl rfl) rfl (hW.keep (by decide))
    | 37, ho, hi, hdep =>
      cases ho
      have da0 : ac.eval (.tmp 30) = .bool true := hF.2.2.2 27 30 _ rfl (hdep ⟨27, .data⟩ (by simp) rfl)
      have da1 : ac.eval (.tmp 39) = undef := hF.2.2.2 36 39 _ rfl (hdep ⟨36, .data⟩ (by simp) rfl)
      exact Ord.ex_value x rfl rfl (Rg.pick_t da0 rfl rfl) rfl (hW.keep (by decide))
  case refine_2 =>
    intro x w' hW
    have hw := hidden hW.last.2
    clear hW
    simp only [Ord.puts, Ord.prs]
    go_simp
    go_wp2
    go_ret
    exact ⟨rfl, hw.out.below⟩
  case refine_3 => exact Rg.StM.first (At.with ((At.zero w).more _ _).drew (by simp))
set_option maxHeartbeats 1000000 in
theorem check3 (c s p m k : Int) (w : World) (h : bndP m k) (h1 : m ≤ c ∧ c ≤ k) (h2 : 4 * m ≤ s ∧ s ≤ 1073741824) (h3 : ¬ (0 ≤ p ∧ p ≤ c)) : Calls Try.prog 41 #[.agg #[.int .i64 c, .int .i64 s, .int .i64 p, .int .i64 m, .int .i64 k]] w fun e w' => e = .returned (.int .i64 120) ∧ Below w.heap.size w w' := by
  have BD := hidden (fun W => bounded_ok c s p h W)
  have EB : Hid (∀ (args : Array Value) (w : World), (callFunc 38 args).run Try.prog w = .ok (.enter 38 args) w) := enters_of Try.func38 (by kernel_rfl) rfl
  have ER : Hid (∀ (args : Array Value) (w : World), (callFunc 42 args).run Try.prog w = .ok (.enter 42 args) w) := enters_of Try.func42 (by kernel_rfl) rfl
  have EL : Hid (∀ (args : Array Value) (w : World), (callFunc 39 args).run Try.prog w = .ok (.enter 39 args) w) := enters_of Try.func39 (by kernel_rfl) rfl
  have LO := hidden (fun W => low c s p m k W h.1)
  have R1 : Hid (∀ W b, Has W b #[.int .i64 m, .int .i64 c, .int .i64 k] 3 → Calls Try.prog 42 #[.slice (some ⟨b, 0, none⟩) 3 3] W fun e w' => e = .returned (.bool true) ∧ Sm W w') := fun W b h => by
    have := rise3 h
    rw [decide_eq_true (show m ≤ c ∧ c ≤ k from h1)] at this
    exact this
  have R2 : Hid (∀ W b, Has W b #[.int .i64 (4 * m), .int .i64 s, .int .i64 1073741824] 3 → Calls Try.prog 42 #[.slice (some ⟨b, 0, none⟩) 3 3] W fun e w' => e = .returned (.bool true) ∧ Sm W w') := fun W b h => by
    have := rise3 h
    rw [decide_eq_true (show 4 * m ≤ s ∧ s ≤ 1073741824 from h2)] at this
    exact this
  have R3 : Hid (∀ W b, Has W b #[.int .i64 0, .int .i64 p, .int .i64 c] 3 → Calls Try.prog 42 #[.slice (some ⟨b, 0, none⟩) 3 3] W fun e w' => e = .returned (.bool false) ∧ Sm W w') := fun W b h => by
    have := rise3 h
    rw [decide_eq_false (show ¬ (0 ≤ p ∧ p ≤ c) from h3)] at this
    exact this
  clear h h1 h2 h3
  go_enter Try.func41, Try.ntmps41
  go_upto_region 1 with fail
  refine Ord.wp_region_ex0 (X := Unit) (by kernel_rfl) 41 (fun x => [(some 3, .agg #[.int .i64 c, .int .i64 s, .int .i64 p, .int .i64 m, .int .i64 k]), (some 4, .bool true), (some 5, .bool false), (some 6, .bool false), (some 7, .pointer (some ⟨w.heap.size, 0, none⟩)), (some 8, .pointer (some ⟨w.heap.size, 3, none⟩)), (some 9, .int .i64 m), (some 10, .pointer (some ⟨w.heap.size, 0, none⟩)), (some 11, .pointer (some ⟨w.heap.size, 0, none⟩)), (some 12, .int .i64 c), (some 13, .pointer (some ⟨w.heap.size, 0, none⟩)), (some 14, .pointer (some ⟨w.heap.size, 4, none⟩)), (some 15, .int .i64 k), (some 16, .slice (some ⟨w.heap.size + 5, 0, none⟩) 3 3), (some 17, .bool true), (some 18, .bool false), (some 19, .bool false), (some 20, .bool false), (some 21, .agg #[.int .i64 c, .int .i64 s, .int .i64 p, .int .i64 m, .int .i64 k]), (some 22, .int .i64 (4 * m)), (some 23, .pointer (some ⟨w.heap.size, 0, none⟩)), (some 24, .pointer (some ⟨w.heap.size, 1, none⟩)), (some 25, .int .i64 s), (some 26, .slice (some ⟨w.heap.size + 7, 0, none⟩) 3 3), (some 27, .bool true), (some 28, .bool false), (some 29, .bool false), (some 30, .bool false), (some 31, .pointer (some ⟨w.heap.size, 0, none⟩)), (some 32, .pointer (some ⟨w.heap.size, 2, none⟩)), (some 33, .int .i64 p), (some 34, .pointer (some ⟨w.heap.size, 0, none⟩)), (some 35, .pointer (some ⟨w.heap.size, 0, none⟩)), (some 36, .int .i64 c), (some 37, .slice (some ⟨w.heap.size + 8, 0, none⟩) 3 3), (some 38, .bool false), (some 39, .bool true), (some 40, .bool true)]) [some 3, some 4, some 5, some 6, some 7, some 8, some 9, some 10, some 11, some 12, some 13, some 14, some 15, some 16, some 17, some 18, some 19, some 20, some 21, some 22, some 23, some 24, some 25, some 26, some 27, some 28, some 29, some 30, some 31, some 32, some 33, some 34, some 35, some 36, some 37, some 38, some 39, some 40] rfl (fun listed hsz hr => Ord.all_listedC (rank := [0, 1, 2, 3, 4, 5, 6, 7, 8, 9, 10, 11, 12, 13, 14, 15, 16, 17, 18, 19, 20, 21, 22, 23, 24, 25, 26, 27, 28, 29, 30, 31, 32, 33, 34, 35, 36, 37]) (by kernel_rfl) hsz hr) (by rfl) (fun _ => rfl) (by kernel_rfl) (Rg.StM [1, 13, 14, 19, 23, 24, 34, 35] (fun kA _ w' => Own w w' [(w.heap.size, #[.int .i64 c, .int .i64 s, .int .i64 p, .int .i64 m, .int .i64 k], 48)] ∧ At w w' (List.getD [[(w.heap.size, #[.int .i64 c, .int .i64 s, .int .i64 p, .int .i64 m, .int .i64 k], 48)], [(w.heap.size, #[.int .i64 c, .int .i64 s, .int .i64 p, .int .i64 m, .int .i64 k], 48)], [(w.heap.size + 5, #[.int .i64 m, .int .i64 c, .int .i64 k], 3), (w.heap.size, #[.int .i64 c, .int .i64 s, .int .i64 p, .int .i64 m, .int .i64 k], 48)], [(w.heap.size + 5, #[.int .i64 m, .int .i64 c, .int .i64 k], 3), (w.heap.size, #[.int .i64 c, .int .i64 s, .int .i64 p, .int .i64 m, .int .i64 k], 48)], [(w.heap.size + 5, #[.int .i64 m, .int .i64 c, .int .i64 k], 3), (w.heap.size, #[.int .i64 c, .int .i64 s, .int .i64 p, .int .i64 m, .int .i64 k], 48)], [(w.heap.size + 7, #[.int .i64 (4 * m), .int .i64 s, .int .i64 1073741824], 3), (w.heap.size + 5, #[.int .i64 m, .int .i64 c, .int .i64 k], 3), (w.heap.size, #[.int .i64 c, .int .i64 s, .int .i64 p, .int .i64 m, .int .i64 k], 48)], [(w.heap.size + 7, #[.int .i64 (4 * m), .int .i64 s, .int .i64 1073741824], 3), (w.heap.size + 5, #[.int .i64 m, .int .i64 c, .int .i64 k], 3), (w.heap.size, #[.int .i64 c, .int .i64 s, .int .i64 p, .int .i64 m, .int .i64 k], 48)], [(w.heap.size + 8, #[.int .i64 0, .int .i64 p, .int .i64 c], 3), (w.heap.size + 7, #[.int .i64 (4 * m), .int .i64 s, .int .i64 1073741824], 3), (w.heap.size + 5, #[.int .i64 m, .int .i64 c, .int .i64 k], 3), (w.heap.size, #[.int .i64 c, .int .i64 s, .int .i64 p, .int .i64 m, .int .i64 k], 48)], [(w.heap.size + 8, #[.int .i64 0, .int .i64 p, .int .i64 c], 3), (w.heap.size + 7, #[.int .i64 (4 * m), .int .i64 s, .int .i64 1073741824], 3), (w.heap.size + 5, #[.int .i64 m, .int .i64 c, .int .i64 k], 3), (w.heap.size, #[.int .i64 c, .int .i64 s, .int .i64 p, .int .i64 m, .int .i64 k], 48)]] kA []) (List.getD [1, 5, 6, 6, 7, 8, 8, 9, 9] kA 0))) (fun _ _ _ _ hL h => h.ext (n := 38) (by decide) hL) ?_ ?_ () ?_
  case refine_1 =>
    intro x Lq iq oq ac w' ho hi hcl hdep hF hW
    have f1 : ac.tmps.size = 41 := hF.1
    match iq, ho, hi, hdep with
    | 0, ho, hi, hdep =>
      cases ho
      have da0 : ac.eval (.tmp 1) = .pointer (some ⟨w.heap.size, 0, none⟩) := hF.old 1 rfl
      obtain ⟨kq, hlo, hhi, hA⟩ := hW.range 0 0 (.inl rfl) (.inr ⟨1, rfl, (Rg.no_of (fun h => hcl 1 _ rfl (h) ⟨0, .data⟩ (by simp) rfl) hi)⟩)
      obtain ⟨c0, c1, c2, c3, c4⟩ := cells5 hA.1 (.head _)
      exact Ord.ex_value x rfl rfl (Rg.load da0 rfl (by simp [go_sem, c0, c1, c2, c3, c4])) rfl (hW.keep (by decide))
    | 1, ho, hi, hdep =>
      cases ho
      have da0 : ac.eval (.tmp 3) = .agg #[.int .i64 c, .int .i64 s, .int .i64 p, .int .i64 m, .int .i64 k] := hF.2.2.2 0 3 _ rfl (hdep ⟨0, .data⟩ (by simp) rfl)
      have hA := hW.at (k := 0) rfl hi (.inl rfl)
      refine Rg.ex_call x rfl rfl (Rg.enter (args := #[.agg #[.int .i64 c, .int .i64 s, .int .i64 p, .int .i64 m, .int .i64 k]]) rfl rfl (by simp [da0]) EB.out) (Calls.mono (BD.out _) ?_)
      rintro e w2 ⟨rfl, hB, hs⟩
      exact ⟨rfl, hW.next (k := 0) rfl (by decide) hi (.inl rfl) (At.with (hA.2.grow hB hs) (by simp))⟩
    | 2, ho, hi, hdep =>
      cases ho
      have da0 : ac.eval (.tmp 4) = .bool true := hF.2.2.2 1 4 _ rfl (hdep ⟨1, .data⟩ (by simp) rfl)
      exact Ord.ex_value x rfl rfl (Rg.not_ da0 rfl) rfl (hW.keep (by decide))
    | 3, ho, hi, hdep =>
      cases ho
      have da0 : ac.eval (.tmp 5) = .bool false := hF.2.2.2 2 5 _ rfl (hdep ⟨2, .data⟩ (by simp) rfl)
      exact Ord.ex_value x rfl rfl (Rg.mv da0 rfl) rfl (hW.keep (by decide))
    | 4, ho, hi, hdep =>
      cases ho
      have dg : ac.eval (.tmp 6) = .bool false := hF.2.2.2 3 6 _ rfl (hdep ⟨3, .guard⟩ (by simp) rfl)
      have da0 : ac.eval (.tmp 1) = .pointer (some ⟨w.heap.size, 0, none⟩) := hF.old 1 rfl
      exact Ord.ex_value x rfl (Ord.wanted_of dg (by rw [f1]; decide) rfl rfl) (Rg.fa da0 rfl (by simp [go_sem])) rfl (hW.keep (by decide))
    | 5, ho, hi, hdep =>
      cases ho
      have dg : ac.eval (.tmp 6) = .bool false := hF.2.2.2 3 6 _ rfl (hdep ⟨3, .guard⟩ (by simp) rfl)
      have da0 : ac.eval (.tmp 7) = .pointer (some ⟨w.heap.size, 0, none⟩) := hF.2.2.2 4 7 _ rfl (hdep ⟨4, .data⟩ (by simp) rfl)
      exact Ord.ex_value x rfl (Ord.wanted_of dg (by rw [f1]; decide) rfl rfl) (Rg.fa da0 rfl (by simp [go_sem])) rfl (hW.keep (by decide))
    | 6, ho, hi, hdep =>
      cases ho
      have dg : ac.eval (.tmp 6) = .bool false := hF.2.2.2 3 6 _ rfl (hdep ⟨3, .guard⟩ (by simp) rfl)
      have da0 : ac.eval (.tmp 8) = .pointer (some ⟨w.heap.size, 3, none⟩) := hF.2.2.2 5 8 _ rfl (hdep ⟨5, .data⟩ (by simp) rfl)
      obtain ⟨kq, hlo, hhi, hA⟩ := hW.range 1 1 (.inr ⟨1, rfl, (hcl 3 _ rfl (hdep ⟨3, .guard⟩ (by simp) rfl) ⟨1, .chain⟩ (by simp) rfl)⟩) (.inr ⟨13, rfl, (Rg.no_of (fun h => hcl 13 _ rfl (h) ⟨6, .data⟩ (by simp) rfl) hi)⟩)
      obtain ⟨c0, c1, c2, c3, c4⟩ := cells5 hA.1 (.head _)
      exact Ord.ex_value x rfl (Ord.wanted_of dg (by rw [f1]; decide) rfl rfl) (Rg.load da0 rfl (by simp [go_sem, c3])) rfl (hW.keep (by decide))
    | 7, ho, hi, hdep =>
      cases ho
      have dg : ac.eval (.tmp 6) = .bool false := hF.2.2.2 3 6 _ rfl (hdep ⟨3, .guard⟩ (by simp) rfl)
      have da0 : ac.eval (.tmp 1) = .pointer (some ⟨w.heap.size, 0, none⟩) := hF.old 1 rfl
      exact Ord.ex_value x rfl (Ord.wanted_of dg (by rw [f1]; decide) rfl rfl) (Rg.fa da0 rfl (by simp [go_sem])) rfl (hW.keep (by decide))
    | 8, ho, hi, hdep =>
      cases ho
      have dg : ac.eval (.tmp 6) = .bool false := hF.2.2.2 3 6 _ rfl (hdep ⟨3, .guard⟩ (by simp) rfl)
      have da0 : ac.eval (.tmp 10) = .pointer (some ⟨w.heap.size, 0, none⟩) := hF.2.2.2 7 10 _ rfl (hdep ⟨7, .data⟩ (by simp) rfl)
      exact Ord.ex_value x rfl (Ord.wanted_of dg (by rw [f1]; decide) rfl rfl) (Rg.fa da0 rfl (by simp [go_sem])) rfl (hW.keep (by decide))
    | 9, ho, hi, hdep =>
      cases ho
      have dg : ac.eval (.tmp 6) = .bool false := hF.2.2.2 3 6 _ rfl (hdep ⟨3, .guard⟩ (by simp) rfl)
      have da0 : ac.eval (.tmp 11) = .pointer (some ⟨w.heap.size, 0, none⟩) := hF.2.2.2 8 11 _ rfl (hdep ⟨8, .data⟩ (by simp) rfl)
      obtain ⟨kq, hlo, hhi, hA⟩ := hW.range 1 1 (.inr ⟨1, rfl, (hcl 3 _ rfl (hdep ⟨3, .guard⟩ (by simp) rfl) ⟨1, .chain⟩ (by simp) rfl)⟩) (.inr ⟨13, rfl, (Rg.no_of (fun h => hcl 13 _ rfl (h) ⟨9, .data⟩ (by simp) rfl) hi)⟩)
      obtain ⟨c0, c1, c2, c3, c4⟩ := cells5 hA.1 (.head _)
      exact Ord.ex_value x rfl (Ord.wanted_of dg (by rw [f1]; decide) rfl rfl) (Rg.load da0 rfl (by simp [go_sem, c0])) rfl (hW.keep (by decide))
    | 10, ho, hi, hdep =>
      cases ho
      have dg : ac.eval (.tmp 6) = .bool false := hF.2.2.2 3 6 _ rfl (hdep ⟨3, .guard⟩ (by simp) rfl)
      have da0 : ac.eval (.tmp 1) = .pointer (some ⟨w.heap.size, 0, none⟩) := hF.old 1 rfl
      exact Ord.ex_value x rfl (Ord.wanted_of dg (by rw [f1]; decide) rfl rfl) (Rg.fa da0 rfl (by simp [go_sem])) rfl (hW.keep (by decide))
    | 11, ho, hi, hdep =>
      cases ho
      have dg : ac.eval (.tmp 6) = .bool false := hF.2.2.2 3 6 _ rfl (hdep ⟨3, .guard⟩ (by simp) rfl)
      have da0 : ac.eval (.tmp 13) = .pointer (some ⟨w.heap.size, 0, none⟩) := hF.2.2.2 10 13 _ rfl (hdep ⟨10, .data⟩ (by simp) rfl)
      exact Ord.ex_value x rfl (Ord.wanted_of dg (by rw [f1]; decide) rfl rfl) (Rg.fa da0 rfl (by simp [go_sem])) rfl (hW.keep (by decide))
    | 12, ho, hi, hdep =>
      cases ho
      have dg : ac.eval (.tmp 6) = .bool false := hF.2.2.2 3 6 _ rfl (hdep ⟨3, .guard⟩ (by simp) rfl)
      have da0 : ac.eval (.tmp 14) = .pointer (some ⟨w.heap.size, 4, none⟩) := hF.2.2.2 11 14 _ rfl (hdep ⟨11, .data⟩ (by simp) rfl)
      obtain ⟨kq, hlo, hhi, hA⟩ := hW.range 1 1 (.inr ⟨1, rfl, (hcl 3 _ rfl (hdep ⟨3, .guard⟩ (by simp) rfl) ⟨1, .chain⟩ (by simp) rfl)⟩) (.inr ⟨13, rfl, (Rg.no_of (fun h => hcl 13 _ rfl (h) ⟨12, .data⟩ (by simp) rfl) hi)⟩)
      obtain ⟨c0, c1, c2, c3, c4⟩ := cells5 hA.1 (.head _)
      exact Ord.ex_value x rfl (Ord.wanted_of dg (by rw [f1]; decide) rfl rfl) (Rg.load da0 rfl (by simp [go_sem, c4])) rfl (hW.keep (by decide))
    | 13, ho, hi, hdep =>
      cases ho
      have dg : ac.eval (.tmp 6) = .bool false := hF.2.2.2 3 6 _ rfl (hdep ⟨3, .guard⟩ (by simp) rfl)
      have da0 : ac.eval (.tmp 9) = .int .i64 m := hF.2.2.2 6 9 _ rfl (hdep ⟨6, .data⟩ (by simp) rfl)
      have da1 : ac.eval (.tmp 12) = .int .i64 c := hF.2.2.2 9 12 _ rfl (hdep ⟨9, .data⟩ (by simp) rfl)
      have da2 : ac.eval (.tmp 15) = .int .i64 k := hF.2.2.2 12 15 _ rfl (hdep ⟨12, .data⟩ (by simp) rfl)
      have hA := hW.at (k := 1) rfl hi (.inr ⟨1, rfl, (hcl 3 _ rfl (hdep ⟨3, .guard⟩ (by simp) rfl) ⟨1, .chain⟩ (by simp) rfl)⟩)
      exact Ord.ex_value x rfl (Ord.wanted_of dg (by rw [f1]; decide) rfl rfl) (Rg.bsl rfl (by simp [da0, da1, da2]) (bs3 hA.2.2 _ _ _)) rfl (hW.next (k := 1) rfl (by decide) hi (.inr ⟨1, rfl, (hcl 3 _ rfl (hdep ⟨3, .guard⟩ (by simp) rfl) ⟨1, .chain⟩ (by simp) rfl)⟩) (At.with (hA.2.more _ _) (by simp)))
    | 14, ho, hi, hdep =>
      cases ho
      have dg : ac.eval (.tmp 6) = .bool false := hF.2.2.2 3 6 _ rfl (hdep ⟨3, .guard⟩ (by simp) rfl)
      have da0 : ac.eval (.tmp 16) = .slice (some ⟨w.heap.size + 5, 0, none⟩) 3 3 := hF.2.2.2 13 16 _ rfl (hdep ⟨13, .data⟩ (by simp) rfl)
      have hA := hW.at (k := 2) rfl hi (.inr ⟨13, rfl, (hdep ⟨13, .data⟩ (by simp) rfl)⟩)
      refine Rg.ex_call x rfl (Ord.wanted_of dg (by rw [f1]; decide) rfl rfl) (Rg.enter (args := #[.slice (some ⟨w.heap.size + 5, 0, none⟩) 3 3]) rfl rfl (by simp [da0]) ER.out) (Calls.mono (R1.out _ _ (hA.2.1.has (.head _))) ?_)
      rintro e w2 ⟨rfl, hS⟩
      exact ⟨rfl, hW.next (k := 2) rfl (by decide) hi (.inr ⟨13, rfl, (hdep ⟨13, .data⟩ (by simp) rfl)⟩) (At.with (hA.2.same hS) (by simp))⟩
    | 15, ho, hi, hdep =>
      cases ho
      have dg : ac.eval (.tmp 6) = .bool false := hF.2.2.2 3 6 _ rfl (hdep ⟨3, .guard⟩ (by simp) rfl)
      have da0 : ac.eval (.tmp 17) = .bool true := hF.2.2.2 14 17 _ rfl (hdep ⟨14, .data⟩ (by simp) rfl)
      exact Ord.ex_value x rfl (Ord.wanted_of dg (by rw [f1]; decide) rfl rfl) (Rg.not_ da0 rfl) rfl (hW.keep (by decide))
    | 16, ho, hi, hdep =>
      cases ho
      have da0 : ac.eval (.tmp 6) = .bool false := hF.2.2.2 3 6 _ rfl (hdep ⟨3, .data⟩ (by simp) rfl)
      have da1 : ac.eval (.tmp 18) = .bool false := hF.2.2.2 15 18 _ rfl (hdep ⟨15, .data⟩ (by simp) rfl)
      exact Ord.ex_value x rfl rfl (Rg.pick_f da0 da1 rfl) rfl (hW.keep (by decide))
    | 17, ho, hi, hdep =>
      cases ho
      have da0 : ac.eval (.tmp 19) = .bool false := hF.2.2.2 16 19 _ rfl (hdep ⟨16, .data⟩ (by simp) rfl)
      exact Ord.ex_value x rfl rfl (Rg.mv da0 rfl) rfl (hW.keep (by decide))
    | 18, ho, hi, hdep =>
      cases ho
      have dg : ac.eval (.tmp 20) = .bool false := hF.2.2.2 17 20 _ rfl (hdep ⟨17, .guard⟩ (by simp) rfl)
      have da0 : ac.eval (.tmp 1) = .pointer (some ⟨w.heap.size, 0, none⟩) := hF.old 1 rfl
      obtain ⟨kq, hlo, hhi, hA⟩ := hW.range 3 3 (.inr ⟨14, rfl, (hcl 17 _ rfl (hdep ⟨17, .guard⟩ (by simp) rfl) ⟨14, .chain⟩ (by simp) rfl)⟩) (.inr ⟨19, rfl, (Rg.no_of (fun h => hcl 19 _ rfl (h) ⟨18, .data⟩ (by simp) rfl) hi)⟩)
      obtain ⟨c0, c1, c2, c3, c4⟩ := cells5 hA.1 (.head _)
      exact Ord.ex_value x rfl (Ord.wanted_of dg (by rw [f1]; decide) rfl rfl) (Rg.load da0 rfl (by simp [go_sem, c0, c1, c2, c3, c4])) rfl (hW.keep (by decide))
    | 19, ho, hi, hdep =>
      cases ho
      have dg : ac.eval (.tmp 20) = .bool false := hF.2.2.2 17 20 _ rfl (hdep ⟨17, .guard⟩ (by simp) rfl)
      have da0 : ac.eval (.tmp 21) = .agg #[.int .i64 c, .int .i64 s, .int .i64 p, .int .i64 m, .int .i64 k] := hF.2.2.2 18 21 _ rfl (hdep ⟨18, .data⟩ (by simp) rfl)
      have hA := hW.at (k := 3) rfl hi (.inr ⟨14, rfl, (hcl 17 _ rfl (hdep ⟨17, .chain⟩ (by simp) rfl) ⟨14, .chain⟩ (by simp) rfl)⟩)
      refine Rg.ex_call x rfl (Ord.wanted_of dg (by rw [f1]; decide) rfl rfl) (Rg.enter (args := #[.agg #[.int .i64 c, .int .i64 s, .int .i64 p, .int .i64 m, .int .i64 k]]) rfl rfl (by simp [da0]) EL.out) (Calls.mono (LO.out _) ?_)
      rintro e w2 ⟨rfl, rfl⟩
      exact ⟨rfl, hW.next (k := 3) rfl (by decide) hi (.inr ⟨14, rfl, (hcl 17 _ rfl (hdep ⟨17, .chain⟩ (by simp) rfl) ⟨14, .chain⟩ (by simp) rfl)⟩) (At.with (hA.2.also _ _) (by simp))⟩
    | 20, ho, hi, hdep =>
      cases ho
      have dg : ac.eval (.tmp 20) = .bool false := hF.2.2.2 17 20 _ rfl (hdep ⟨17, .guard⟩ (by simp) rfl)
      have da0 : ac.eval (.tmp 1) = .pointer (some ⟨w.heap.size, 0, none⟩) := hF.old 1 rfl
      exact Ord.ex_value x rfl (Ord.wanted_of dg (by rw [f1]; decide) rfl rfl) (Rg.fa da0 rfl (by simp [go_sem])) rfl (hW.keep (by decide))
    | 21, ho, hi, hdep =>
      cases ho
      have dg : ac.eval (.tmp 20) = .bool false := hF.2.2.2 17 20 _ rfl (hdep ⟨17, .guard⟩ (by simp) rfl)
      have da0 : ac.eval (.tmp 23) = .pointer (some ⟨w.heap.size, 0, none⟩) := hF.2.2.2 20 23 _ rfl (hdep ⟨20, .data⟩ (by simp) rfl)
      exact Ord.ex_value x rfl (Ord.wanted_of dg (by rw [f1]; decide) rfl rfl) (Rg.fa da0 rfl (by simp [go_sem])) rfl (hW.keep (by decide))
    | 22, ho, hi, hdep =>
      cases ho
      have dg : ac.eval (.tmp 20) = .bool false := hF.2.2.2 17 20 _ rfl (hdep ⟨17, .guard⟩ (by simp) rfl)
      have da0 : ac.eval (.tmp 24) = .pointer (some ⟨w.heap.size, 1, none⟩) := hF.2.2.2 21 24 _ rfl (hdep ⟨21, .data⟩ (by simp) rfl)
      obtain ⟨kq, hlo, hhi, hA⟩ := hW.range 3 4 (.inr ⟨14, rfl, (hcl 17 _ rfl (hdep ⟨17, .guard⟩ (by simp) rfl) ⟨14, .chain⟩ (by simp) rfl)⟩) (.inr ⟨23, rfl, (Rg.no_of (fun h => hcl 23 _ rfl (h) ⟨22, .data⟩ (by simp) rfl) hi)⟩)
      obtain ⟨c0, c1, c2, c3, c4⟩ := cells5 hA.1 (.head _)
      exact Ord.ex_value x rfl (Ord.wanted_of dg (by rw [f1]; decide) rfl rfl) (Rg.load da0 rfl (by simp [go_sem, c1])) rfl (hW.keep (by decide))
    | 23, ho, hi, hdep =>
      cases ho
      have dg : ac.eval (.tmp 20) = .bool false := hF.2.2.2 17 20 _ rfl (hdep ⟨17, .guard⟩ (by simp) rfl)
      have da0 : ac.eval (.tmp 22) = .int .i64 (4 * m) := hF.2.2.2 19 22 _ rfl (hdep ⟨19, .data⟩ (by simp) rfl)
      have da1 : ac.eval (.tmp 25) = .int .i64 s := hF.2.2.2 22 25 _ rfl (hdep ⟨22, .data⟩ (by simp) rfl)
      have hA := hW.at (k := 4) rfl hi (.inr ⟨19, rfl, (hdep ⟨19, .data⟩ (by simp) rfl)⟩)
      exact Ord.ex_value x rfl (Ord.wanted_of dg (by rw [f1]; decide) rfl rfl) (Rg.bsl rfl (by simp [da0, da1, ev_const]) (bs3 hA.2.2 _ _ _)) rfl (hW.next (k := 4) rfl (by decide) hi (.inr ⟨19, rfl, (hdep ⟨19, .data⟩ (by simp) rfl)⟩) (At.with (hA.2.more _ _) (by simp)))
    | 24, ho, hi, hdep =>
      cases ho
      have dg : ac.eval (.tmp 20) = .bool false := hF.2.2.2 17 20 _ rfl (hdep ⟨17, .guard⟩ (by simp) rfl)
      have da0 : ac.eval (.tmp 26) = .slice (some ⟨w.heap.size + 7, 0, none⟩) 3 3 := hF.2.2.2 23 26 _ rfl (hdep ⟨23, .data⟩ (by simp) rfl)
      have hA := hW.at (k := 5) rfl hi (.inr ⟨23, rfl, (hdep ⟨23, .data⟩ (by simp) rfl)⟩)
      refine Rg.ex_call x rfl (Ord.wanted_of dg (by rw [f1]; decide) rfl rfl) (Rg.enter (args := #[.slice (some ⟨w.heap.size + 7, 0, none⟩) 3 3]) rfl rfl (by simp [da0]) ER.out) (Calls.mono (R2.out _ _ (hA.2.1.has (.head _))) ?_)
      rintro e w2 ⟨rfl, hS⟩
      exact ⟨rfl, hW.next (k := 5) rfl (by decide) hi (.inr ⟨23, rfl, (hdep ⟨23, .data⟩ (by simp) rfl)⟩) (At.with (hA.2.same hS) (by simp))⟩
    | 25, ho, hi, hdep =>
      cases ho
      have dg : ac.eval (.tmp 20) = .bool false := hF.2.2.2 17 20 _ rfl (hdep ⟨17, .guard⟩ (by simp) rfl)
      have da0 : ac.eval (.tmp 27) = .bool true := hF.2.2.2 24 27 _ rfl (hdep ⟨24, .data⟩ (by simp) rfl)
      exact Ord.ex_value x rfl (Ord.wanted_of dg (by rw [f1]; decide) rfl rfl) (Rg.not_ da0 rfl) rfl (hW.keep (by decide))
    | 26, ho, hi, hdep =>
      cases ho
      have da0 : ac.eval (.tmp 20) = .bool false := hF.2.2.2 17 20 _ rfl (hdep ⟨17, .data⟩ (by simp) rfl)
      have da1 : ac.eval (.tmp 28) = .bool false := hF.2.2.2 25 28 _ rfl (hdep ⟨25, .data⟩ (by simp) rfl)
      exact Ord.ex_value x rfl rfl (Rg.pick_f da0 da1 rfl) rfl (hW.keep (by decide))
    | 27, ho, hi, hdep =>
      cases ho
      have da0 : ac.eval (.tmp 29) = .bool false := hF.2.2.2 26 29 _ rfl (hdep ⟨26, .data⟩ (by simp) rfl)
      exact Ord.ex_value x rfl rfl (Rg.mv da0 rfl) rfl (hW.keep (by decide))
    | 28, ho, hi, hdep =>
      cases ho
      have dg : ac.eval (.tmp 30) = .bool false := hF.2.2.2 27 30 _ rfl (hdep ⟨27, .guard⟩ (by simp) rfl)
      have da0 : ac.eval (.tmp 1) = .pointer (some ⟨w.heap.size, 0, none⟩) := hF.old 1 rfl
      exact Ord.ex_value x rfl (Ord.wanted_of dg (by rw [f1]; decide) rfl rfl) (Rg.fa da0 rfl (by simp [go_sem])) rfl (hW.keep (by decide))
    | 29, ho, hi, hdep =>
      cases ho
      have dg : ac.eval (.tmp 30) = .bool false := hF.2.2.2 27 30 _ rfl (hdep ⟨27, .guard⟩ (by simp) rfl)
      have da0 : ac.eval (.tmp 31) = .pointer (some ⟨w.heap.size, 0, none⟩) := hF.2.2.2 28 31 _ rfl (hdep ⟨28, .data⟩ (by simp) rfl)
      exact Ord.ex_value x rfl (Ord.wanted_of dg (by rw [f1]; decide) rfl rfl) (Rg.fa da0 rfl (by simp [go_sem])) rfl (hW.keep (by decide))
    | 30, ho, hi, hdep =>
      cases ho
      have dg : ac.eval (.tmp 30) = .bool false := hF.2.2.2 27 30 _ rfl (hdep ⟨27, .guard⟩ (by simp) rfl)
      have da0 : ac.eval (.tmp 32) = .pointer (some ⟨w.heap.size, 2, none⟩) := hF.2.2.2 29 32 _ rfl (hdep ⟨29, .data⟩ (by simp) rfl)
      obtain ⟨kq, hlo, hhi, hA⟩ := hW.range 6 6 (.inr ⟨24, rfl, (hcl 27 _ rfl (hdep ⟨27, .guard⟩ (by simp) rfl) ⟨24, .chain⟩ (by simp) rfl)⟩) (.inr ⟨34, rfl, (Rg.no_of (fun h => hcl 34 _ rfl (h) ⟨30, .data⟩ (by simp) rfl) hi)⟩)
      obtain ⟨c0, c1, c2, c3, c4⟩ := cells5 hA.1 (.head _)
      exact Ord.ex_value x rfl (Ord.wanted_of dg (by rw [f1]; decide) rfl rfl) (Rg.load da0 rfl (by simp [go_sem, c2])) rfl (hW.keep (by decide))
    | 31, ho, hi, hdep =>
      cases ho
      have dg : ac.eval (.tmp 30) = .bool false := hF.2.2.2 27 30 _ rfl (hdep ⟨27, .guard⟩ (by simp) rfl)
      have da0 : ac.eval (.tmp 1) = .pointer (some ⟨w.heap.size, 0, none⟩) := hF.old 1 rfl
      exact Ord.ex_value x rfl (Ord.wanted_of dg (by rw [f1]; decide) rfl rfl) (Rg.fa da0 rfl (by simp [go_sem])) rfl (hW.keep (by decide))
    | 32, ho, hi, hdep =>
      cases ho
      have dg : ac.eval (.tmp 30) = .bool false := hF.2.2.2 27 30 _ rfl (hdep ⟨27, .guard⟩ (by simp) rfl)
      have da0 : ac.eval (.tmp 34) = .pointer (some ⟨w.heap.size, 0, none⟩) := hF.2.2.2 31 34 _ rfl (hdep ⟨31, .data⟩ (by simp) rfl)
      exact Ord.ex_value x rfl (Ord.wanted_of dg (by rw [f1]; decide) rfl rfl) (Rg.fa da0 rfl (by simp [go_sem])) rfl (hW.keep (by decide))
    | 33, ho, hi, hdep =>
      cases ho
      have dg : ac.eval (.tmp 30) = .bool false := hF.2.2.2 27 30 _ rfl (hdep ⟨27, .guard⟩ (by simp) rfl)
      have da0 : ac.eval (.tmp 35) = .pointer (some ⟨w.heap.size, 0, none⟩) := hF.2.2.2 32 35 _ rfl (hdep ⟨32, .data⟩ (by simp) rfl)
      obtain ⟨kq, hlo, hhi, hA⟩ := hW.range 6 6 (.inr ⟨24, rfl, (hcl 27 _ rfl (hdep ⟨27, .guard⟩ (by simp) rfl) ⟨24, .chain⟩ (by simp) rfl)⟩) (.inr ⟨34, rfl, (Rg.no_of (fun h => hcl 34 _ rfl (h) ⟨33, .data⟩ (by simp) rfl) hi)⟩)
      obtain ⟨c0, c1, c2, c3, c4⟩ := cells5 hA.1 (.head _)
      exact Ord.ex_value x rfl (Ord.wanted_of dg (by rw [f1]; decide) rfl rfl) (Rg.load da0 rfl (by simp [go_sem, c0])) rfl (hW.keep (by decide))
    | 34, ho, hi, hdep =>
      cases ho
      have dg : ac.eval (.tmp 30) = .bool false := hF.2.2.2 27 30 _ rfl (hdep ⟨27, .guard⟩ (by simp) rfl)
      have da0 : ac.eval (.tmp 33) = .int .i64 p := hF.2.2.2 30 33 _ rfl (hdep ⟨30, .data⟩ (by simp) rfl)
      have da1 : ac.eval (.tmp 36) = .int .i64 c := hF.2.2.2 33 36 _ rfl (hdep ⟨33, .data⟩ (by simp) rfl)
      have hA := hW.at (k := 6) rfl hi (.inr ⟨24, rfl, (hcl 27 _ rfl (hdep ⟨27, .guard⟩ (by simp) rfl) ⟨24, .chain⟩ (by simp) rfl)⟩)
      exact Ord.ex_value x rfl (Ord.wanted_of dg (by rw [f1]; decide) rfl rfl) (Rg.bsl rfl (by simp [da0, da1, ev_const]) (bs3 hA.2.2 _ _ _)) rfl (hW.next (k := 6) rfl (by decide) hi (.inr ⟨24, rfl, (hcl 27 _ rfl (hdep ⟨27, .guard⟩ (by simp) rfl) ⟨24, .chain⟩ (by simp) rfl)⟩) (At.with (hA.2.more _ _) (by simp)))
    | 35, ho, hi, hdep =>
      cases ho
      have dg : ac.eval (.tmp 30) = .bool false := hF.2.2.2 27 30 _ rfl (hdep ⟨27, .guard⟩ (by simp) rfl)
      have da0 : ac.eval (.tmp 37) = .slice (some ⟨w.heap.size + 8, 0, none⟩) 3 3 := hF.2.2.2 34 37 _ rfl (hdep ⟨34, .data⟩ (by simp) rfl)
      have hA := hW.at (k := 7) rfl hi (.inr ⟨34, rfl, (hdep ⟨34, .data⟩ (by simp) rfl)⟩)
      refine Rg.ex_call x rfl (Ord.wanted_of dg (by rw [f1]; decide) rfl rfl) (Rg.enter (args := #[.slice (some ⟨w.heap.size + 8, 0, none⟩) 3 3]) rfl rfl (by simp [da0]) ER.out) (Calls.mono (R3.out _ _ (hA.2.1.has (.head _))) ?_)
      rintro e w2 ⟨rfl, hS⟩
      exact ⟨rfl, hW.next (k := 7) rfl (by decide) hi (.inr ⟨34, rfl, (hdep ⟨34, .data⟩ (by simp) rfl)⟩) (At.with (hA.2.same hS) (by simp))⟩
    | 36, ho, hi, hdep =>
      cases ho
      have dg : ac.eval (.tmp 30) = .bool false := hF.2.2.2 27 30 _ rfl (hdep ⟨27, .guard⟩ (by simp) rfl)
      have da0 : ac.eval (.tmp 38) = .bool false := hF.2.2.2 35 38 _ rfl (hdep ⟨35, .data⟩ (by simp) rfl)
      exact Ord.ex_value x rfl (Ord.wanted_of dg (by rw [f1]; decide) rfl rfl) (Rg.not_ da0 rfl) rfl (hW.keep (by decide))
    | 37, ho, hi, hdep =>
      cases ho
      have da0 : ac.eval (.tmp 30) = .bool false := hF.2.2.2 27 30 _ rfl (hdep ⟨27, .data⟩ (by simp) rfl)
      have da1 : ac.eval (.tmp 39) = .bool true := hF.2.2.2 36 39 _ rfl (hdep ⟨36, .data⟩ (by simp) rfl)
      exact Ord.ex_value x rfl rfl (Rg.pick_f da0 da1 rfl) rfl (hW.keep (by decide))
  case refine_2 =>
    intro x w' hW
    have hw := hidden hW.last.2
    clear hW
    simp only [Ord.puts, Ord.prs]
    go_simp
    go_wp2
    go_ret
    exact ⟨rfl, hw.out.below⟩
  case refine_3 => exact Rg.StM.first (At.with ((At.zero w).more _ _).drew (by simp))
set_option maxHeartbeats 1000000 in
theorem check4 (c s p m k : Int) (w : World) (h : bndP m k) (h1 : m ≤ c ∧ c ≤ k) (h2 : 4 * m ≤ s ∧ s ≤ 1073741824) (h3 : 0 ≤ p ∧ p ≤ c) : Calls Try.prog 41 #[.agg #[.int .i64 c, .int .i64 s, .int .i64 p, .int .i64 m, .int .i64 k]] w fun e w' => e = .returned (.int .i64 0) ∧ Below w.heap.size w w' := by
  have BD := hidden (fun W => bounded_ok c s p h W)
  have EB : Hid (∀ (args : Array Value) (w : World), (callFunc 38 args).run Try.prog w = .ok (.enter 38 args) w) := enters_of Try.func38 (by kernel_rfl) rfl
  have ER : Hid (∀ (args : Array Value) (w : World), (callFunc 42 args).run Try.prog w = .ok (.enter 42 args) w) := enters_of Try.func42 (by kernel_rfl) rfl
  have EL : Hid (∀ (args : Array Value) (w : World), (callFunc 39 args).run Try.prog w = .ok (.enter 39 args) w) := enters_of Try.func39 (by kernel_rfl) rfl
  have LO := hidden (fun W => low c s p m k W h.1)
  have R1 : Hid (∀ W b, Has W b #[.int .i64 m, .int .i64 c, .int .i64 k] 3 → Calls Try.prog 42 #[.slice (some ⟨b, 0, none⟩) 3 3] W fun e w' => e = .returned (.bool true) ∧ Sm W w') := fun W b h => by
    have := rise3 h
    rw [decide_eq_true (show m ≤ c ∧ c ≤ k from h1)] at this
    exact this
  have R2 : Hid (∀ W b, Has W b #[.int .i64 (4 * m), .int .i64 s, .int .i64 1073741824] 3 → Calls Try.prog 42 #[.slice (some ⟨b, 0, none⟩) 3 3] W fun e w' => e = .returned (.bool true) ∧ Sm W w') := fun W b h => by
    have := rise3 h
    rw [decide_eq_true (show 4 * m ≤ s ∧ s ≤ 1073741824 from h2)] at this
    exact this
  have R3 : Hid (∀ W b, Has W b #[.int .i64 0, .int .i64 p, .int .i64 c] 3 → Calls Try.prog 42 #[.slice (some ⟨b, 0, none⟩) 3 3] W fun e w' => e = .returned (.bool true) ∧ Sm W w') := fun W b h => by
    have := rise3 h
    rw [decide_eq_true (show 0 ≤ p ∧ p ≤ c from h3)] at this
    exact this
  clear h h1 h2 h3
  go_enter Try.func41, Try.ntmps41
  go_upto_region 1 with fail
  refine Ord.wp_region_ex0 (X := Unit) (by kernel_rfl) 41 (fun x => [(some 3, .agg #[.int .i64 c, .int .i64 s, .int .i64 p, .int .i64 m, .int .i64 k]), (some 4, .bool true), (some 5, .bool false), (some 6, .bool false), (some 7, .pointer (some ⟨w.heap.size, 0, none⟩)), (some 8, .pointer (some ⟨w.heap.size, 3, none⟩)), (some 9, .int .i64 m), (some 10, .pointer (some ⟨w.heap.size, 0, none⟩)), (some 11, .pointer (some ⟨w.heap.size, 0, none⟩)), (some 12, .int .i64 c), (some 13, .pointer (some ⟨w.heap.size, 0, none⟩)), (some 14, .pointer (some ⟨w.heap.size, 4, none⟩)), (some 15, .int .i64 k), (some 16, .slice (some ⟨w.heap.size + 5, 0, none⟩) 3 3), (some 17, .bool true), (some 18, .bool false), (some 19, .bool false), (some 20, .bool false), (some 21, .agg #[.int .i64 c, .int .i64 s, .int .i64 p, .int .i64 m, .int .i64 k]), (some 22, .int .i64 (4 * m)), (some 23, .pointer (some ⟨w.heap.size, 0, none⟩)), (some 24, .pointer (some ⟨w.heap.size, 1, none⟩)), (some 25, .int .i64 s), (some 26, .slice (some ⟨w.heap.size + 7, 0, none⟩) 3 3), (some 27, .bool true), (some 28, .bool false), (some 29, .bool false), (some 30, .bool false), (some 31, .pointer (some ⟨w.heap.size, 0, none⟩)), (some 32, .pointer (some ⟨w.heap.size, 2, none⟩)), (some 33, .int .i64 p), (some 34, .pointer (some ⟨w.heap.size, 0, none⟩)), (some 35, .pointer (some ⟨w.heap.size, 0, none⟩)), (some 36, .int .i64 c), (some 37, .slice (some ⟨w.heap.size + 8, 0, none⟩) 3 3), (some 38, .bool true), (some 39, .bool false), (some 40, .bool false)]) [some 3, some 4, some 5, some 6, some 7, some 8, some 9, some 10, some 11, some 12, some 13, some 14, some 15, some 16, some 17, some 18, some 19, some 20, some 21, some 22, some 23, some 24, some 25, some 26, some 27, some 28, some 29, some 30, some 31, some 32, some 33, some 34, some 35, some 36, some 37, some 38, some 39, some 40] rfl (fun listed hsz hr => Ord.all_listedC (rank := [0, 1, 2, 3, 4, 5, 6, 7, 8, 9, 10, 11, 12, 13, 14, 15, 16, 17, 18, 19, 20, 21, 22, 23, 24, 25, 26, 27, 28, 29, 30, 31, 32, 33, 34, 35, 36, 37]) (by kernel_rfl) hsz hr) (by rfl) (fun _ => rfl) (by kernel_rfl) (Rg.StM [1, 13, 14, 19, 23, 24, 34, 35] (fun kA _ w' => Own w w' [(w.heap.size, #[.int .i64 c, .int .i64 s, .int .i64 p, .int .i64 m, .int .i64 k], 48)] ∧ At w w' (List.getD [[(w.heap.size, #[.int .i64 c, .int .i64 s, .int .i64 p, .int .i64 m, .int .i64 k], 48)], [(w.heap.size, #[.int .i64 c, .int .i64 s, .int .i64 p, .int .i64 m, .int .i64 k], 48)], [(w.heap.size + 5, #[.int .i64 m, .int .i64 c, .int .i64 k], 3), (w.heap.size, #[.int .i64 c, .int .i64 s, .int .i64 p, .int .i64 m, .int .i64 k], 48)], [(w.heap.size + 5, #[.int .i64 m, .int .i64 c, .int .i64 k], 3), (w.heap.size, #[.int .i64 c, .int .i64 s, .int .i64 p, .int .i64 m, .int .i64 k], 48)], [(w.heap.size + 5, #[.int .i64 m, .int .i64 c, .int .i64 k], 3), (w.heap.size, #[.int .i64 c, .int .i64 s, .int .i64 p, .int .i64 m, .int .i64 k], 48)], [(w.heap.size + 7, #[.int .i64 (4 * m), .int .i64 s, .int .i64 1073741824], 3), (w.heap.size + 5, #[.int .i64 m, .int .i64 c, .int .i64 k], 3), (w.heap.size, #[.int .i64 c, .int .i64 s, .int .i64 p, .int .i64 m, .int .i64 k], 48)], [(w.heap.size + 7, #[.int .i64 (4 * m), .int .i64 s, .int .i64 1073741824], 3), (w.heap.size + 5, #[.int .i64 m, .int .i64 c, .int .i64 k], 3), (w.heap.size, #[.int .i64 c, .int .i64 s, .int .i64 p, .int .i64 m, .int .i64 k], 48)], [(w.heap.size + 8, #[.int .i64 0, .int .i64 p, .int .i64 c], 3), (w.heap.size + 7, #[.int .i64 (4 * m), .int .i64 s, .int .i64 1073741824], 3), (w.heap.size + 5, #[.int .i64 m, .int .i64 c, .int .i64 k], 3), (w.heap.size, #[.int .i64 c, .int .i64 s, .int .i64 p, .int .i64 m, .int .i64 k], 48)], [(w.heap.size + 8, #[.int .i64 0, .int .i64 p, .int .i64 c], 3), (w.heap.size + 7, #[.int .i64 (4 * m), .int .i64 s, .int .i64 1073741824], 3), (w.heap.size + 5, #[.int .i64 m, .int .i64 c, .int .i64 k], 3), (w.heap.size, #[.int .i64 c, .int .i64 s, .int .i64 p, .int .i64 m, .int .i64 k], 48)]] kA []) (List.getD [1, 5, 6, 6, 7, 8, 8, 9, 9] kA 0))) (fun _ _ _ _ hL h => h.ext (n := 38) (by decide) hL) ?_ ?_ () ?_
  case refine_1 =>
    intro x Lq iq oq ac w' ho hi hcl hdep hF hW
    have f1 : ac.tmps.size = 41 := hF.1
    match iq, ho, hi, hdep with
    | 0, ho, hi, hdep =>
      cases ho
      have da0 : ac.eval (.tmp 1) = .pointer (some ⟨w.heap.size, 0, none⟩) := hF.old 1 rfl
      obtain ⟨kq, hlo, hhi, hA⟩ := hW.range 0 0 (.inl rfl) (.inr ⟨1, rfl, (Rg.no_of (fun h => hcl 1 _ rfl (h) ⟨0, .data⟩ (by simp) rfl) hi)⟩)
      obtain ⟨c0, c1, c2, c3, c4⟩ := cells5 hA.1 (.head _)
      exact Ord.ex_value x rfl rfl (Rg.load da0 rfl (by simp [go_sem, c0, c1, c2, c3, c4])) rfl (hW.keep (by decide))
    | 1, ho, hi, hdep =>
      cases ho
      have da0 : ac.eval (.tmp 3) = .agg #[.int .i64 c, .int .i64 s, .int .i64 p, .int .i64 m, .int .i64 k] := hF.2.2.2 0 3 _ rfl (hdep ⟨0, .data⟩ (by simp) rfl)
      have hA := hW.at (k := 0) rfl hi (.inl rfl)
      refine Rg.ex_call x rfl rfl (Rg.enter (args := #[.agg #[.int .i64 c, .int .i64 s, .int .i64 p, .int .i64 m, .int .i64 k]]) rfl rfl (by simp [da0]) EB.out) (Calls.mono (BD.out _) ?_)
      rintro e w2 ⟨rfl, hB, hs⟩
      exact ⟨rfl, hW.next (k := 0) rfl (by decide) hi (.inl rfl) (At.with (hA.2.grow hB hs) (by simp))⟩
    | 2, ho, hi, hdep =>
      cases ho
      have da0 : ac.eval (.tmp 4) = .bool true := hF.2.2.2 1 4 _ rfl (hdep ⟨1, .data⟩ (by simp) rfl)
      exact Ord.ex_value x rfl rfl (Rg.not_ da0 rfl) rfl (hW.keep (by decide))
    | 3, ho, hi, hdep =>
      cases ho
      have da0 : ac.eval (.tmp 5) = .bool false := hF.2.2.2 2 5 _ rfl (hdep ⟨2, .data⟩ (by simp) rfl)
      exact Ord.ex_value x rfl rfl (Rg.mv da0 rfl) rfl (hW.keep (by decide))
    | 4, ho, hi, hdep =>
      cases ho
      have dg : ac.eval (.tmp 6) = .bool false := hF.2.2.2 3 6 _ rfl (hdep ⟨3, .guard⟩ (by simp) rfl)
      have da0 : ac.eval (.tmp 1) = .pointer (some ⟨w.heap.size, 0, none⟩) := hF.old 1 rfl
      exact Ord.ex_value x rfl (Ord.wanted_of dg (by rw [f1]; decide) rfl rfl) (Rg.fa da0 rfl (by simp [go_sem])) rfl (hW.keep (by decide))
    | 5, ho, hi, hdep =>
      cases ho
      have dg : ac.eval (.tmp 6) = .bool false := hF.2.2.2 3 6 _ rfl (hdep ⟨3, .guard⟩ (by simp) rfl)
      have da0 : ac.eval (.tmp 7) = .pointer (some ⟨w.heap.size, 0, none⟩) := hF.2.2.2 4 7 _ rfl (hdep ⟨4, .data⟩ (by simp) rfl)
      exact Ord.ex_value x rfl (Ord.wanted_of dg (by rw [f1]; decide) rfl rfl) (Rg.fa da0 rfl (by simp [go_sem])) rfl (hW.keep (by decide))
    | 6, ho, hi, hdep =>
      cases ho
      have dg : ac.eval (.tmp 6) = .bool false := hF.2.2.2 3 6 _ rfl (hdep ⟨3, .guard⟩ (by simp) rfl)
      have da0 : ac.eval (.tmp 8) = .pointer (some ⟨w.heap.size, 3, none⟩) := hF.2.2.2 5 8 _ rfl (hdep ⟨5, .data⟩ (by simp) rfl)
      obtain ⟨kq, hlo, hhi, hA⟩ := hW.range 1 1 (.inr ⟨1, rfl, (hcl 3 _ rfl (hdep ⟨3, .guard⟩ (by simp) rfl) ⟨1, .chain⟩ (by simp) rfl)⟩) (.inr ⟨13, rfl, (Rg.no_of (fun h => hcl 13 _ rfl (h) ⟨6, .data⟩ (by simp) rfl) hi)⟩)
      obtain ⟨c0, c1, c2, c3, c4⟩ := cells5 hA.1 (.head _)
      exact Ord.ex_value x rfl (Ord.wanted_of dg (by rw [f1]; decide) rfl rfl) (Rg.load da0 rfl (by simp [go_sem, c3])) rfl (hW.keep (by decide))
    | 7, ho, hi, hdep =>
      cases ho
      have dg : ac.eval (.tmp 6) = .bool false := hF.2.2.2 3 6 _ rfl (hdep ⟨3, .guard⟩ (by simp) rfl)
      have da0 : ac.eval (.tmp 1) = .pointer (some ⟨w.heap.size, 0, none⟩) := hF.old 1 rfl
      exact Ord.ex_value x rfl (Ord.wanted_of dg (by rw [f1]; decide) rfl rfl) (Rg.fa da0 rfl (by simp [go_sem])) rfl (hW.keep (by decide))
    | 8, ho, hi, hdep =>
      cases ho
      have dg : ac.eval (.tmp 6) = .bool false := hF.2.2.2 3 6 _ rfl (hdep ⟨3, .guard⟩ (by simp) rfl)
      have da0 : ac.eval (.tmp 10) = .pointer (some ⟨w.heap.size, 0, none⟩) := hF.2.2.2 7 10 _ rfl (hdep ⟨7, .data⟩ (by simp) rfl)
      exact Ord.ex_value x rfl (Ord.wanted_of dg (by rw [f1]; decide) rfl rfl) (Rg.fa da0 rfl (by simp [go_sem])) rfl (hW.keep (by decide))
    | 9, ho, hi, hdep =>
      cases ho
      have dg : ac.eval (.tmp 6) = .bool false := hF.2.2.2 3 6 _ rfl (hdep ⟨3, .guard⟩ (by simp) rfl)
      have da0 : ac.eval (.tmp 11) = .pointer (some ⟨w.heap.size, 0, none⟩) := hF.2.2.2 8 11 _ rfl (hdep ⟨8, .data⟩ (by simp) rfl)
      obtain ⟨kq, hlo, hhi, hA⟩ := hW.range 1 1 (.inr ⟨1, rfl, (hcl 3 _ rfl (hdep ⟨3, .guard⟩ (by simp) rfl) ⟨1, .chain⟩ (by simp) rfl)⟩) (.inr ⟨13, rfl, (Rg.no_of (fun h => hcl 13 _ rfl (h) ⟨9, .data⟩ (by simp) rfl) hi)⟩)
      obtain ⟨c0, c1, c2, c3, c4⟩ := cells5 hA.1 (.head _)
      exact Ord.ex_value x rfl (Ord.wanted_of dg (by rw [f1]; decide) rfl rfl) (Rg.load da0 rfl (by simp [go_sem, c0])) rfl (hW.keep (by decide))
    | 10, ho, hi, hdep =>
      cases ho
      have dg : ac.eval (.tmp 6) = .bool false := hF.2.2.2 3 6 _ rfl (hdep ⟨3, .guard⟩ (by simp) rfl)
      have da0 : ac.eval (.tmp 1) = .pointer (some ⟨w.heap.size, 0, none⟩) := hF.old 1 rfl
      exact Ord.ex_value x rfl (Ord.wanted_of dg (by rw [f1]; decide) rfl rfl) (Rg.fa da0 rfl (by simp [go_sem])) rfl (hW.keep (by decide))
    | 11, ho, hi, hdep =>
      cases ho
      have dg : ac.eval (.tmp 6) = .bool false := hF.2.2.2 3 6 _ rfl (hdep ⟨3, .guard⟩ (by simp) rfl)
      have da0 : ac.eval (.tmp 13) = .pointer (some ⟨w.heap.size, 0, none⟩) := hF.2.2.2 10 13 _ rfl (hdep ⟨10, .data⟩ (by simp) rfl)
      exact Ord.ex_value x rfl (Ord.wanted_of dg (by rw [f1]; decide) rfl rfl) (Rg.fa da0 rfl (by simp [go_sem])) rfl (hW.keep (by decide))
    | 12, ho, hi, hdep =>
      cases ho
      have dg : ac.eval (.tmp 6) = .bool false := hF.2.2.2 3 6 _ rfl (hdep ⟨3, .guard⟩ (by simp) rfl)
      have da0 : ac.eval (.tmp 14) = .pointer (some ⟨w.heap.size, 4, none⟩) := hF.2.2.2 11 14 _ rfl (hdep ⟨11, .data⟩ (by simp) rfl)
      obtain ⟨kq, hlo, hhi, hA⟩ := hW.range 1 1 (.inr ⟨1, rfl, (hcl 3 _ rfl (hdep ⟨3, .guard⟩ (by simp) rfl) ⟨1, .chain⟩ (by simp) rfl)⟩) (.inr ⟨13, rfl, (Rg.no_of (fun h => hcl 13 _ rfl (h) ⟨12, .data⟩ (by simp) rfl) hi)⟩)
      obtain ⟨c0, c1, c2, c3, c4⟩ := cells5 hA.1 (.head _)
      exact Ord.ex_value x rfl (Ord.wanted_of dg (by rw [f1]; decide) rfl rfl) (Rg.load da0 rfl (by simp [go_sem, c4])) rfl (hW.keep (by decide))
    | 13, ho, hi, hdep =>
      cases ho
      have dg : ac.eval (.tmp 6) = .bool false := hF.2.2.2 3 6 _ rfl (hdep ⟨3, .guard⟩ (by simp) rfl)
      have da0 : ac.eval (.tmp 9) = .int .i64 m := hF.2.2.2 6 9 _ rfl (hdep ⟨6, .data⟩ (by simp) rfl)
      have da1 : ac.eval (.tmp 12) = .int .i64 c := hF.2.2.2 9 12 _ rfl (hdep ⟨9, .data⟩ (by simp) rfl)
      have da2 : ac.eval (.tmp 15) = .int .i64 k := hF.2.2.2 12 15 _ rfl (hdep ⟨12, .data⟩ (by simp) rfl)
      have hA := hW.at (k := 1) rfl hi (.inr ⟨1, rfl, (hcl 3 _ rfl (hdep ⟨3, .guard⟩ (by simp) rfl) ⟨1, .chain⟩ (by simp) rfl)⟩)
      exact Ord.ex_value x rfl (Ord.wanted_of dg (by rw [f1]; decide) rfl rfl) (Rg.bsl rfl (by simp [da0, da1, da2]) (bs3 hA.2.2 _ _ _)) rfl (hW.next (k := 1) rfl (by decide) hi (.inr ⟨1, rfl, (hcl 3 _ rfl (hdep ⟨3, .guard⟩ (by simp) rfl) ⟨1, .chain⟩ (by simp) rfl)⟩) (At.with (hA.2.more _ _) (by simp)))
    | 14, ho, hi, hdep =>
      cases ho
      have dg : ac.eval (.tmp 6) = .bool false := hF.2.2.2 3 6 _ rfl (hdep ⟨3, .guard⟩ (by simp) rfl)
      have da0 : ac.eval (.tmp 16) = .slice (some ⟨w.heap.size + 5, 0, none⟩) 3 3 := hF.2.2.2 13 16 _ rfl (hdep ⟨13, .data⟩ (by simp) rfl)
      have hA := hW.at (k := 2) rfl hi (.inr ⟨13, rfl, (hdep ⟨13, .data⟩ (by simp) rfl)⟩)
      refine Rg.ex_call x rfl (Ord.wanted_of dg (by rw [f1]; decide) rfl rfl) (Rg.enter (args := #[.slice (some ⟨w.heap.size + 5, 0, none⟩) 3 3]) rfl rfl (by simp [da0]) ER.out) (Calls.mono (R1.out _ _ (hA.2.1.has (.head _))) ?_)
      rintro e w2 ⟨rfl, hS⟩
      exact ⟨rfl, hW.next (k := 2) rfl (by decide) hi (.inr ⟨13, rfl, (hdep ⟨13, .data⟩ (by simp) rfl)⟩) (At.with (hA.2.same hS) (by simp))⟩
    | 15, ho, hi, hdep =>
      cases ho
      have dg : ac.eval (.tmp 6) = .bool false := hF.2.2.2 3 6 _ rfl (hdep ⟨3, .guard⟩ (by simp) rfl)
      have da0 : ac.eval (.tmp 17) = .bool true := hF.2.2.2 14 17 _ rfl (hdep ⟨14, .data⟩ (by simp) rfl)
      exact Ord.ex_value x rfl (Ord.wanted_of dg (by rw [f1]; decide) rfl rfl) (Rg.not_ da0 rfl) rfl (hW.keep (by decide))
    | 16, ho, hi, hdep =>
      cases ho
      have da0 : ac.eval (.tmp 6) = .bool false := hF.2.2.2 3 6 _ rfl (hdep ⟨3, .data⟩ (by simp) rfl)
      have da1 : ac.eval (.tmp 18) = .bool false := hF.2.2.2 15 18 _ rfl (hdep ⟨15, .data⟩ (by simp) rfl)
      exact Ord.ex_value x rfl rfl (Rg.pick_f da0 da1 rfl) rfl (hW.keep (by decide))
    | 17, ho, hi, hdep =>
      cases ho
      have da0 : ac.eval (.tmp 19) = .bool false := hF.2.2.2 16 19 _ rfl (hdep ⟨16, .data⟩ (by simp) rfl)
      exact Ord.ex_value x rfl rfl (Rg.mv da0 rfl) rfl (hW.keep (by decide))
    | 18, ho, hi, hdep =>
      cases ho
      have dg : ac.eval (.tmp 20) = .bool false := hF.2.2.2 17 20 _ rfl (hdep ⟨17, .guard⟩ (by simp) rfl)
      have da0 : ac.eval (.tmp 1) = .pointer (some ⟨w.heap.size, 0, none⟩) := hF.old 1 rfl
      obtain ⟨kq, hlo, hhi, hA⟩ := hW.range 3 3 (.inr ⟨14, rfl, (hcl 17 _ rfl (hdep ⟨17, .guard⟩ (by simp) rfl) ⟨14, .chain⟩ (by simp) rfl)⟩) (.inr ⟨19, rfl, (Rg.no_of (fun h => hcl 19 _ rfl (h) ⟨18, .data⟩ (by simp) rfl) hi)⟩)
      obtain ⟨c0, c1, c2, c3, c4⟩ := cells5 hA.1 (.head _)
      exact Ord.ex_value x rfl (Ord.wanted_of dg (by rw [f1]; decide) rfl rfl) (Rg.load da0 rfl (by simp [go_sem, c0, c1, c2, c3, c4])) rfl (hW.keep (by decide))
    | 19, ho, hi, hdep =>
      cases ho
      have dg : ac.eval (.tmp 20) = .bool false := hF.2.2.2 17 20 _ rfl (hdep ⟨17, .guard⟩ (by simp) rfl)
      have da0 : ac.eval (.tmp 21) = .agg #[.int .i64 c, .int .i64 s, .int .i64 p, .int .i64 m, .int .i64 k] := hF.2.2.2 18 21 _ rfl (hdep ⟨18, .data⟩ (by simp) rfl)
      have hA := hW.at (k := 3) rfl hi (.inr ⟨14, rfl, (hcl 17 _ rfl (hdep ⟨17, .chain⟩ (by simp) rfl) ⟨14, .chain⟩ (by simp) rfl)⟩)
      refine Rg.ex_call x rfl (Ord.wanted_of dg (by rw [f1]; decide) rfl rfl) (Rg.enter (args := #[.agg #[.int .i64 c, .int .i64 s, .int .i64 p, .int .i64 m, .int .i64 k]]) rfl rfl (by simp [da0]) EL.out) (Calls.mono (LO.out _) ?_)
      rintro e w2 ⟨rfl, rfl⟩
      exact ⟨rfl, hW.next (k := 3) rfl (by decide) hi (.inr ⟨14, rfl, (hcl 17 _ rfl (hdep ⟨17, .chain⟩ (by simp) rfl) ⟨14, .chain⟩ (by simp) rfl)⟩) (At.with (hA.2.also _ _) (by simp))⟩
    | 20, ho, hi, hdep =>
      cases ho
      have dg : ac.eval (.tmp 20) = .bool false := hF.2.2.2 17 20 _ rfl (hdep ⟨17, .guard⟩ (by simp) rfl)
      have da0 : ac.eval (.tmp 1) = .pointer (some ⟨w.heap.size, 0, none⟩) := hF.old 1 rfl
      exact Ord.ex_value x rfl (Ord.wanted_of dg (by rw [f1]; decide) rfl rfl) (Rg.fa da0 rfl (by simp [go_sem])) rfl (hW.keep (by decide))
    | 21, ho, hi, hdep =>
      cases ho
      have dg : ac.eval (.tmp 20) = .bool false := hF.2.2.2 17 20 _ rfl (hdep ⟨17, .guard⟩ (by simp) rfl)
      have da0 : ac.eval (.tmp 23) = .pointer (some ⟨w.heap.size, 0, none⟩) := hF.2.2.2 20 23 _ rfl (hdep ⟨20, .data⟩ (by simp) rfl)
      exact Ord.ex_value x rfl (Ord.wanted_of dg (by rw [f1]; decide) rfl rfl) (Rg.fa da0 rfl (by simp [go_sem])) rfl (hW.keep (by decide))
    | 22, ho, hi, hdep =>
      cases ho
      have dg : ac.eval (.tmp 20) = .bool false := hF.2.2.2 17 20 _ rfl (hdep ⟨17, .guard⟩ (by simp) rfl)
      have da0 : ac.eval (.tmp 24) = .pointer (some ⟨w.heap.size, 1, none⟩) := hF.2.2.2 21 24 _ rfl (hdep ⟨21, .data⟩ (by simp) rfl)
      obtain ⟨kq, hlo, hhi, hA⟩ := hW.range 3 4 (.inr ⟨14, rfl, (hcl 17 _ rfl (hdep ⟨17, .guard⟩ (by simp) rfl) ⟨14, .chain⟩ (by simp) rfl)⟩) (.inr ⟨23, rfl, (Rg.no_of (fun h => hcl 23 _ rfl (h) ⟨22, .data⟩ (by simp) rfl) hi)⟩)
      obtain ⟨c0, c1, c2, c3, c4⟩ := cells5 hA.1 (.head _)
      exact Ord.ex_value x rfl (Ord.wanted_of dg (by rw [f1]; decide) rfl rfl) (Rg.load da0 rfl (by simp [go_sem, c1])) rfl (hW.keep (by decide))
    | 23, ho, hi, hdep =>
      cases ho
      have dg : ac.eval (.tmp 20) = .bool false := hF.2.2.2 17 20 _ rfl (hdep ⟨17, .guard⟩ (by simp) rfl)
      have da0 : ac.eval (.tmp 22) = .int .i64 (4 * m) := hF.2.2.2 19 22 _ rfl (hdep ⟨19, .data⟩ (by simp) rfl)
      have da1 : ac.eval (.tmp 25) = .int .i64 s := hF.2.2.2 22 25 _ rfl (hdep ⟨22, .data⟩ (by simp) rfl)
      have hA := hW.at (k := 4) rfl hi (.inr ⟨19, rfl, (hdep ⟨19, .data⟩ (by simp) rfl)⟩)
      exact Ord.ex_value x rfl (Ord.wanted_of dg (by rw [f1]; decide) rfl rfl) (Rg.bsl rfl (by simp [da0, da1, ev_const]) (bs3 hA.2.2 _ _ _)) rfl (hW.next (k := 4) rfl (by decide) hi (.inr ⟨19, rfl, (hdep ⟨19, .data⟩ (by simp) rfl)⟩) (At.with (hA.2.more _ _) (by simp)))
    | 24, ho, hi, hdep =>
      cases ho
      have dg : ac.eval (.tmp 20) = .bool false := hF.2.2.2 17 20 _ rfl (hdep ⟨17, .guard⟩ (by simp) rfl)
      have da0 : ac.eval (.tmp 26) = .slice (some ⟨w.heap.size + 7, 0, none⟩) 3 3 := hF.2.2.2 23 26 _ rfl (hdep ⟨23, .data⟩ (by simp) rfl)
      have hA := hW.at (k := 5) rfl hi (.inr ⟨23, rfl, (hdep ⟨23, .data⟩ (by simp) rfl)⟩)
      refine Rg.ex_call x rfl (Ord.wanted_of dg (by rw [f1]; decide) rfl rfl) (Rg.enter (args := #[.slice (some ⟨w.heap.size + 7, 0, none⟩) 3 3]) rfl rfl (by simp [da0]) ER.out) (Calls.mono (R2.out _ _ (hA.2.1.has (.head _))) ?_)
      rintro e w2 ⟨rfl, hS⟩
      exact ⟨rfl, hW.next (k := 5) rfl (by decide) hi (.inr ⟨23, rfl, (hdep ⟨23, .data⟩ (by simp) rfl)⟩) (At.with (hA.2.same hS) (by simp))⟩
    | 25, ho, hi, hdep =>
      cases ho
      have dg : ac.eval (.tmp 20) = .bool false := hF.2.2.2 17 20 _ rfl (hdep ⟨17, .guard⟩ (by simp) rfl)
      have da0 : ac.eval (.tmp 27) = .bool true := hF.2.2.2 24 27 _ rfl (hdep ⟨24, .data⟩ (by simp) rfl)
      exact Ord.ex_value x rfl (Ord.wanted_of dg (by rw [f1]; decide) rfl rfl) (Rg.not_ da0 rfl) rfl (hW.keep (by decide))
    | 26, ho, hi, hdep =>
      cases ho
      have da0 : ac.eval (.tmp 20) = .bool false := hF.2.2.2 17 20 _ rfl (hdep ⟨17, .data⟩ (by simp) rfl)
      have da1 : ac.eval (.tmp 28) = .bool false := hF.2.2.2 25 28 _ rfl (hdep ⟨25, .data⟩ (by simp) rfl)
      exact Ord.ex_value x rfl rfl (Rg.pick_f da0 da1 rfl) rfl (hW.keep (by decide))
    | 27, ho, hi, hdep =>
      cases ho
      have da0 : ac.eval (.tmp 29) = .bool false := hF.2.2.2 26 29 _ rfl (hdep ⟨26, .data⟩ (by simp) rfl)
      exact Ord.ex_value x rfl rfl (Rg.mv da0 rfl) rfl (hW.keep (by decide))
    | 28, ho, hi, hdep =>
      cases ho
      have dg : ac.eval (.tmp 30) = .bool false := hF.2.2.2 27 30 _ rfl (hdep ⟨27, .guard⟩ (by simp) rfl)
      have da0 : ac.eval (.tmp 1) = .pointer (some ⟨w.heap.size, 0, none⟩) := hF.old 1 rfl
      exact Ord.ex_value x rfl (Ord.wanted_of dg (by rw [f1]; decide) rfl rfl) (Rg.fa da0 rfl (by simp [go_sem])) rfl (hW.keep (by decide))
    | 29, ho, hi, hdep =>
      cases ho
      have dg : ac.eval (.tmp 30) = .bool false := hF.2.2.2 27 30 _ rfl (hdep ⟨27, .guard⟩ (by simp) rfl)
      have da0 : ac.eval (.tmp 31) = .pointer (some ⟨w.heap.size, 0, none⟩) := hF.2.2.2 28 31 _ rfl (hdep ⟨28, .data⟩ (by simp) rfl)
      exact Ord.ex_value x rfl (Ord.wanted_of dg (by rw [f1]; decide) rfl rfl) (Rg.fa da0 rfl (by simp [go_sem])) rfl (hW.keep (by decide))
    | 30, ho, hi, hdep =>
      cases ho
      have dg : ac.eval (.tmp 30) = .bool false := hF.2.2.2 27 30 _ rfl (hdep ⟨27, .guard⟩ (by simp) rfl)
      have da0 : ac.eval (.tmp 32) = .pointer (some ⟨w.heap.size, 2, none⟩) := hF.2.2.2 29 32 _ rfl (hdep ⟨29, .data⟩ (by simp) rfl)
      obtain ⟨kq, hlo, hhi, hA⟩ := hW.range 6 6 (.inr ⟨24, rfl, (hcl 27 _ rfl (hdep ⟨27, .guard⟩ (by simp) rfl) ⟨24, .chain⟩ (by simp) rfl)⟩) (.inr ⟨34, rfl, (Rg.no_of (fun h => hcl 34 _ rfl (h) ⟨30, .data⟩ (by simp) rfl) hi)⟩)
      obtain ⟨c0, c1, c2, c3, c4⟩ := cells5 hA.1 (.head _)
      exact Ord.ex_value x rfl (Ord.wanted_of dg (by rw [f1]; decide) rfl rfl) (Rg.load da0 rfl (by simp [go_sem, c2])) rfl (hW.keep (by decide))
    | 31, ho, hi, hdep =>
      cases ho
      have dg : ac.eval (.tmp 30) = .bool false := hF.2.2.2 27 30 _ rfl (hdep ⟨27, .guard⟩ (by simp) rfl)
      have da0 : ac.eval (.tmp 1) = .pointer (some ⟨w.heap.size, 0, none⟩) := hF.old 1 rfl
      exact Ord.ex_value x rfl (Ord.wanted_of dg (by rw [f1]; decide) rfl rfl) (Rg.fa da0 rfl (by simp [go_sem])) rfl (hW.keep (by decide))
    | 32, ho, hi, hdep =>
      cases ho
      have dg : ac.eval (.tmp 30) = .bool false := hF.2.2.2 27 30 _ rfl (hdep ⟨27, .guard⟩ (by simp) rfl)
      have da0 : ac.eval (.tmp 34) = .pointer (some ⟨w.heap.size, 0, none⟩) := hF.2.2.2 31 34 _ rfl (hdep ⟨31, .data⟩ (by simp) rfl)
      exact Ord.ex_value x rfl (Ord.wanted_of dg (by rw [f1]; decide) rfl rfl) (Rg.fa da0 rfl (by simp [go_sem])) rfl (hW.keep (by decide))
    | 33, ho, hi, hdep =>
      cases ho
      have dg : ac.eval (.tmp 30) = .bool false := hF.2.2.2 27 30 _ rfl (hdep ⟨27, .guard⟩ (by simp) rfl)
      have da0 : ac.eval (.tmp 35) = .pointer (some ⟨w.heap.size, 0, none⟩) := hF.2.2.2 32 35 _ rfl (hdep ⟨32, .data⟩ (by simp) rfl)
      obtain ⟨kq, hlo, hhi, hA⟩ := hW.range 6 6 (.inr ⟨24, rfl, (hcl 27 _ rfl (hdep ⟨27, .guard⟩ (by simp) rfl) ⟨24, .chain⟩ (by simp) rfl)⟩) (.inr ⟨34, rfl, (Rg.no_of (fun h => hcl 34 _ rfl (h) ⟨33, .data⟩ (by simp) rfl) hi)⟩)
      obtain ⟨c0, c1, c2, c3, c4⟩ := cells5 hA.1 (.head _)
      exact Ord.ex_value x rfl (Ord.wanted_of dg (by rw [f1]; decide) rfl rfl) (Rg.load da0 rfl (by simp [go_sem, c0])) rfl (hW.keep (by decide))
    | 34, ho, hi, hdep =>
      cases ho
      have dg : ac.eval (.tmp 30) = .bool false := hF.2.2.2 27 30 _ rfl (hdep ⟨27, .guard⟩ (by simp) rfl)
      have da0 : ac.eval (.tmp 33) = .int .i64 p := hF.2.2.2 30 33 _ rfl (hdep ⟨30, .data⟩ (by simp) rfl)
      have da1 : ac.eval (.tmp 36) = .int .i64 c := hF.2.2.2 33 36 _ rfl (hdep ⟨33, .data⟩ (by simp) rfl)
      have hA := hW.at (k := 6) rfl hi (.inr ⟨24, rfl, (hcl 27 _ rfl (hdep ⟨27, .guard⟩ (by simp) rfl) ⟨24, .chain⟩ (by simp) rfl)⟩)
      exact Ord.ex_value x rfl (Ord.wanted_of dg (by rw [f1]; decide) rfl rfl) (Rg.bsl rfl (by simp [da0, da1, ev_const]) (bs3 hA.2.2 _ _ _)) rfl (hW.next (k := 6) rfl (by decide) hi (.inr ⟨24, rfl, (hcl 27 _ rfl (hdep ⟨27, .guard⟩ (by simp) rfl) ⟨24, .chain⟩ (by simp) rfl)⟩) (At.with (hA.2.more _ _) (by simp)))
    | 35, ho, hi, hdep =>
      cases ho
      have dg : ac.eval (.tmp 30) = .bool false := hF.2.2.2 27 30 _ rfl (hdep ⟨27, .guard⟩ (by simp) rfl)
      have da0 : ac.eval (.tmp 37) = .slice (some ⟨w.heap.size + 8, 0, none⟩) 3 3 := hF.2.2.2 34 37 _ rfl (hdep ⟨34, .data⟩ (by simp) rfl)
      have hA := hW.at (k := 7) rfl hi (.inr ⟨34, rfl, (hdep ⟨34, .data⟩ (by simp) rfl)⟩)
      refine Rg.ex_call x rfl (Ord.wanted_of dg (by rw [f1]; decide) rfl rfl) (Rg.enter (args := #[.slice (some ⟨w.heap.size + 8, 0, none⟩) 3 3]) rfl rfl (by simp [da0]) ER.out) (Calls.mono (R3.out _ _ (hA.2.1.has (.head _))) ?_)
      rintro e w2 ⟨rfl, hS⟩
      exact ⟨rfl, hW.next (k := 7) rfl (by decide) hi (.inr ⟨34, rfl, (hdep ⟨34, .data⟩ (by simp) rfl)⟩) (At.with (hA.2.same hS) (by simp))⟩
    | 36, ho, hi, hdep =>
      cases ho
      have dg : ac.eval (.tmp 30) = .bool false := hF.2.2.2 27 30 _ rfl (hdep ⟨27, .guard⟩ (by simp) rfl)
      have da0 : ac.eval (.tmp 38) = .bool true := hF.2.2.2 35 38 _ rfl (hdep ⟨35, .data⟩ (by simp) rfl)
      exact Ord.ex_value x rfl (Ord.wanted_of dg (by rw [f1]; decide) rfl rfl) (Rg.not_ da0 rfl) rfl (hW.keep (by decide))
    | 37, ho, hi, hdep =>
      cases ho
      have da0 : ac.eval (.tmp 30) = .bool false := hF.2.2.2 27 30 _ rfl (hdep ⟨27, .data⟩ (by simp) rfl)
      have da1 : ac.eval (.tmp 39) = .bool false := hF.2.2.2 36 39 _ rfl (hdep ⟨36, .data⟩ (by simp) rfl)
      exact Ord.ex_value x rfl rfl (Rg.pick_f da0 da1 rfl) rfl (hW.keep (by decide))
  case refine_2 =>
    intro x w' hW
    have hw := hidden hW.last.2
    clear hW
    simp only [Ord.puts, Ord.prs]
    go_simp
    go_wp2
    go_ret
    exact ⟨rfl, hw.out.below⟩
  case refine_3 => exact Rg.StM.first (At.with ((At.zero w).more _ _).drew (by simp))
/-- Check's number -/
def chk (c s p m k : Int) : Int := if mayP c s p m k then 0 else 120
theorem chk_ok {c s p m k : Int} (h : mayP c s p m k) : chk c s p m k = 0 := by unfold chk; rw [if_pos h]
theorem chk_no {c s p m k : Int} (h : ¬ mayP c s p m k) : chk c s p m k = 120 := by unfold chk; rw [if_neg h]
theorem check (c s p m k : Int) (w : World) : Calls Try.prog 41 #[.agg #[.int .i64 c, .int .i64 s, .int .i64 p, .int .i64 m, .int .i64 k]] w fun e w' => e = .returned (.int .i64 (chk c s p m k)) ∧ Below w.heap.size w w' := by
  by_cases h : bndP m k
  · by_cases h1 : m ≤ c ∧ c ≤ k
    · by_cases h2 : 4 * m ≤ s ∧ s ≤ 1073741824
      · by_cases h3 : 0 ≤ p ∧ p ≤ c
        · rw [chk_ok ⟨h, h1, h2, h3⟩]; exact check4 c s p m k w h h1 h2 h3
        · rw [chk_no (fun e => h3 e.2.2.2)]; exact check3 c s p m k w h h1 h2 h3
      · rw [chk_no (fun e => h2 e.2.2.1)]; exact check2 c s p m k w h h1 h2
    · rw [chk_no (fun e => h1 e.2.1)]; exact check1 c s p m k w h h1
  · rw [chk_no (fun e => h e.1)]; exact check0 c s p m k w h
theorem quo2 {c : Int} (hc : 0 ≤ c ∧ c ≤ 1073741824) (x y : Operand) (w : World) : (do eqGuard .quo 3 x y (.int .i64 c) (.int .i64 2); binOp .quo 3 (.int .i64 c) (.int .i64 2) : Sem Value).run Try.prog w = .ok (.int .i64 (c / 2)) w := by
  have h : c.tdiv 2 = c / 2 := Int.tdiv_eq_ediv_of_nonneg hc.1
  have hw : IntKind.i64.wrap (c / 2) = c / 2 := by rw [IntKind.wrap_i64]; omega
  simp [go_sem, h, hw]
theorem half0 {c s p m k : Int} (hm : 100 ≤ m ∧ m ≤ 1500) (hc : 0 ≤ c ∧ c ≤ 1073741824) (w : World) : Calls Try.prog 34 #[.agg #[.int .i64 c, .int .i64 s, .int .i64 p, .int .i64 m, .int .i64 k], .slice none 0 0] w fun e w' => e = .returned (.int .i64 (max (c / 2) (4 * m))) ∧ Below w.heap.size w w' := by
  have EL : Hid (∀ (args : Array Value) (w : World), (callFunc 39 args).run Try.prog w = .ok (.enter 39 args) w) := enters_of Try.func39 (by kernel_rfl) rfl
  have EK : Hid (∀ (args : Array Value) (w : World), (callFunc 40 args).run Try.prog w = .ok (.enter 40 args) w) := enters_of Try.func40 (by kernel_rfl) rfl
  have LO := hidden (fun W => low c s p m k W hm)
  have QU := hidden (quo2 hc (.tmp 7) (.const (.int .i64 2)))
  have KE := hidden (fun W => keep0 (c / 2) (4 * m) W)
  clear hm hc
  go_enter Try.func34, Try.ntmps34
  go_upto_region 1 with fail
  refine Ord.wp_region_ex0 (X := Unit) (by kernel_rfl) 13 (fun y => [(some 5, .pointer (some ⟨w.heap.size, 0, none⟩)), (some 6, .pointer (some ⟨w.heap.size, 0, none⟩)), (some 7, .int .i64 c), (some 8, .int .i64 (c / 2)), (some 9, .agg #[.int .i64 c, .int .i64 s, .int .i64 p, .int .i64 m, .int .i64 k]), (some 10, .int .i64 (4 * m)), (some 11, .slice none 0 0), (some 12, .int .i64 (max (c / 2) (4 * m))), (some 4, .int .i64 (max (c / 2) (4 * m)))]) [some 5, some 6, some 7, some 8, some 9, some 10, some 11, some 12, some 4] rfl (fun listed hsz hr => Ord.all_listedC (rank := [0, 1, 2, 3, 4, 5, 6, 7, 8]) (by kernel_rfl) hsz hr) (by rfl) (fun _ => rfl) (by kernel_rfl) (Rg.StM [5, 7] (fun _ _ w' => Own w w' [(w.heap.size, #[.int .i64 c, .int .i64 s, .int .i64 p, .int .i64 m, .int .i64 k], 48)])) (fun _ _ _ _ hL h => h.ext (n := 9) (by decide) hL) ?_ ?_ () ?_
  case refine_1 =>
    intro y Lq iq oq ac w' ho hi hcl hdep hF hW
    have f1 : ac.tmps.size = 13 := hF.1
    match iq, ho, hi, hdep with
    | 0, ho, hi, hdep =>
      cases ho
      have da0 : ac.eval (.tmp 2) = .pointer (some ⟨w.heap.size, 0, none⟩) := hF.old 2 rfl
      exact Ord.ex_value y rfl rfl (Rg.fa da0 rfl (by simp [go_sem])) rfl (hW.keep (by decide))
    | 1, ho, hi, hdep =>
      cases ho
      have da0 : ac.eval (.tmp 5) = .pointer (some ⟨w.heap.size, 0, none⟩) := hF.2.2.2 0 5 _ rfl (hdep ⟨0, .data⟩ (by simp) rfl)
      exact Ord.ex_value y rfl rfl (Rg.fa da0 rfl (by simp [go_sem])) rfl (hW.keep (by decide))
    | 2, ho, hi, hdep =>
      cases ho
      have da0 : ac.eval (.tmp 6) = .pointer (some ⟨w.heap.size, 0, none⟩) := hF.2.2.2 1 6 _ rfl (hdep ⟨1, .data⟩ (by simp) rfl)
      obtain ⟨kq, hlo, hhi, hA⟩ := hW.range 0 1 (.inl rfl) (.inr ⟨7, rfl, (Rg.no_of (fun h => hcl 3 _ rfl (hcl 7 _ rfl (h) ⟨3, .data⟩ (by simp) rfl) ⟨2, .data⟩ (by simp) rfl) hi)⟩)
      obtain ⟨c0, c1, c2, c3, c4⟩ := cells5 hA (.head _)
      exact Ord.ex_value y rfl rfl (Rg.load da0 rfl (by simp [go_sem, c0])) rfl (hW.keep (by decide))
    | 3, ho, hi, hdep =>
      cases ho
      have da0 : ac.eval (.tmp 7) = .int .i64 c := hF.2.2.2 2 7 _ rfl (hdep ⟨2, .data⟩ (by simp) rfl)
      exact Ord.ex_value y rfl rfl (Rg.bin da0 rfl rfl (QU.out _)) rfl (hW.keep (by decide))
    | 4, ho, hi, hdep =>
      cases ho
      have da0 : ac.eval (.tmp 2) = .pointer (some ⟨w.heap.size, 0, none⟩) := hF.old 2 rfl
      obtain ⟨kq, hlo, hhi, hA⟩ := hW.range 0 0 (.inl rfl) (.inr ⟨5, rfl, (Rg.no_of (fun h => hcl 5 _ rfl (h) ⟨4, .data⟩ (by simp) rfl) hi)⟩)
      obtain ⟨c0, c1, c2, c3, c4⟩ := cells5 hA (.head _)
      exact Ord.ex_value y rfl rfl (Rg.load da0 rfl (by simp [go_sem, c0, c1, c2, c3, c4])) rfl (hW.keep (by decide))
    | 5, ho, hi, hdep =>
      cases ho
      have da0 : ac.eval (.tmp 9) = .agg #[.int .i64 c, .int .i64 s, .int .i64 p, .int .i64 m, .int .i64 k] := hF.2.2.2 4 9 _ rfl (hdep ⟨4, .data⟩ (by simp) rfl)
      have hA := hW.at (k := 0) rfl hi (.inl rfl)
      refine Rg.ex_call y rfl rfl (Rg.enter (args := #[.agg #[.int .i64 c, .int .i64 s, .int .i64 p, .int .i64 m, .int .i64 k]]) rfl rfl (by simp [da0]) EL.out) (Calls.mono (LO.out _) ?_)
      rintro e w2 ⟨rfl, rfl⟩
      exact ⟨rfl, hW.next (k := 0) rfl (by decide) hi (.inl rfl) (hA.later ((Below.refl _ _).alloc (Nat.le_refl _) _))⟩
    | 6, ho, hi, hdep =>
      cases ho
      have da0 : ac.eval (.tmp 1) = .slice none 0 0 := hF.old 1 rfl
      exact Ord.ex_value y rfl rfl (Rg.mv da0 rfl) rfl (hW.keep (by decide))
    | 7, ho, hi, hdep =>
      cases ho
      have da0 : ac.eval (.tmp 8) = .int .i64 (c / 2) := hF.2.2.2 3 8 _ rfl (hdep ⟨3, .data⟩ (by simp) rfl)
      have da1 : ac.eval (.tmp 10) = .int .i64 (4 * m) := hF.2.2.2 5 10 _ rfl (hdep ⟨5, .data⟩ (by simp) rfl)
      have da2 : ac.eval (.tmp 11) = .slice none 0 0 := hF.2.2.2 6 11 _ rfl (hdep ⟨6, .data⟩ (by simp) rfl)
      have hA := hW.at (k := 1) rfl hi (.inr ⟨5, rfl, (hdep ⟨5, .data⟩ (by simp) rfl)⟩)
      refine Rg.ex_call y rfl rfl (Rg.enter (args := #[.int .i64 (c / 2), .int .i64 (4 * m), .slice none 0 0]) rfl rfl (by simp [da0, da1, da2]) EK.out) (Calls.mono (KE.out _) ?_)
      rintro e w2 ⟨rfl, rfl⟩
      exact ⟨rfl, hW.next (k := 1) rfl (by decide) hi (.inr ⟨5, rfl, (hdep ⟨5, .data⟩ (by simp) rfl)⟩) hA⟩
    | 8, ho, hi, hdep =>
      cases ho
      have da0 : ac.eval (.tmp 12) = .int .i64 (max (c / 2) (4 * m)) := hF.2.2.2 7 12 _ rfl (hdep ⟨7, .data⟩ (by simp) rfl)
      exact Ord.ex_value y rfl rfl (Rg.asg da0 rfl) rfl (hW.keep (by decide))
  case refine_2 =>
    intro y w' hW
    have hw := hidden hW.last
    clear hW
    simp only [Ord.puts, Ord.prs]
    go_simp
    go_wp2
    go_ret
    exact ⟨rfl, hw.out.below⟩
  case refine_3 => exact Rg.StM.first ((At.zero w).more _ _).drew.1
theorem half1 {c s p m k : Int} {x : Int} {b : Nat} (hm : 100 ≤ m ∧ m ≤ 1500) (hc : 0 ≤ c ∧ c ≤ 1073741824) (w : World) (h : Has w b #[.int .i64 x] 3) : Calls Try.prog 34 #[.agg #[.int .i64 c, .int .i64 s, .int .i64 p, .int .i64 m, .int .i64 k], .slice (some ⟨b, 0, none⟩) 1 1] w fun e w' => e = .returned (.int .i64 (min (max (c / 2) (4 * m)) x)) ∧ Below w.heap.size w w' := by
  have EL : Hid (∀ (args : Array Value) (w : World), (callFunc 39 args).run Try.prog w = .ok (.enter 39 args) w) := enters_of Try.func39 (by kernel_rfl) rfl
  have EK : Hid (∀ (args : Array Value) (w : World), (callFunc 40 args).run Try.prog w = .ok (.enter 40 args) w) := enters_of Try.func40 (by kernel_rfl) rfl
  have LO := hidden (fun W => low c s p m k W hm)
  have QU := hidden (quo2 hc (.tmp 7) (.const (.int .i64 2)))
  have HX := hidden h
  have KE : Hid (∀ W, Has W b #[.int .i64 x] 3 → Calls Try.prog 40 #[.int .i64 (c / 2), .int .i64 (4 * m), .slice (some ⟨b, 0, none⟩) 1 1] W fun e w' => e = .returned (.int .i64 (min (max (c / 2) (4 * m)) x)) ∧ W = w') := fun W h => keep1 h _ _
  clear hm hc h
  go_enter Try.func34, Try.ntmps34
  go_upto_region 1 with fail
  refine Ord.wp_region_ex0 (X := Unit) (by kernel_rfl) 13 (fun y => [(some 5, .pointer (some ⟨w.heap.size, 0, none⟩)), (some 6, .pointer (some ⟨w.heap.size, 0, none⟩)), (some 7, .int .i64 c), (some 8, .int .i64 (c / 2)), (some 9, .agg #[.int .i64 c, .int .i64 s, .int .i64 p, .int .i64 m, .int .i64 k]), (some 10, .int .i64 (4 * m)), (some 11, .slice (some ⟨b, 0, none⟩) 1 1), (some 12, .int .i64 (min (max (c / 2) (4 * m)) x)), (some 4, .int .i64 (min (max (c / 2) (4 * m)) x))]) [some 5, some 6, some 7, some 8, some 9, some 10, some 11, some 12, some 4] rfl (fun listed hsz hr => Ord.all_listedC (rank := [0, 1, 2, 3, 4, 5, 6, 7, 8]) (by kernel_rfl) hsz hr) (by rfl) (fun _ => rfl) (by kernel_rfl) (Rg.StM [5, 7] (fun _ _ w' => Own w w' [(w.heap.size, #[.int .i64 c, .int .i64 s, .int .i64 p, .int .i64 m, .int .i64 k], 48)])) (fun _ _ _ _ hL h => h.ext (n := 9) (by decide) hL) ?_ ?_ () ?_
  case refine_1 =>
    intro y Lq iq oq ac w' ho hi hcl hdep hF hW
    have f1 : ac.tmps.size = 13 := hF.1
    match iq, ho, hi, hdep with
    | 0, ho, hi, hdep =>
      cases ho
      have da0 : ac.eval (.tmp 2) = .pointer (some ⟨w.heap.size, 0, none⟩) := hF.old 2 rfl
      exact Ord.ex_value y rfl rfl (Rg.fa da0 rfl (by simp [go_sem])) rfl (hW.keep (by decide))
    | 1, ho, hi, hdep =>
      cases ho
      have da0 : ac.eval (.tmp 5) = .pointer (some ⟨w.heap.size, 0, none⟩) := hF.2.2.2 0 5 _ rfl (hdep ⟨0, .data⟩ (by simp) rfl)
      exact Ord.ex_value y rfl rfl (Rg.fa da0 rfl (by simp [go_sem])) rfl (hW.keep (by decide))
    | 2, ho, hi, hdep =>
      cases ho
      have da0 : ac.eval (.tmp 6) = .pointer (some ⟨w.heap.size, 0, none⟩) := hF.2.2.2 1 6 _ rfl (hdep ⟨1, .data⟩ (by simp) rfl)
      obtain ⟨kq, hlo, hhi, hA⟩ := hW.range 0 1 (.inl rfl) (.inr ⟨7, rfl, (Rg.no_of (fun h => hcl 3 _ rfl (hcl 7 _ rfl (h) ⟨3, .data⟩ (by simp) rfl) ⟨2, .data⟩ (by simp) rfl) hi)⟩)
      obtain ⟨c0, c1, c2, c3, c4⟩ := cells5 hA (.head _)
      exact Ord.ex_value y rfl rfl (Rg.load da0 rfl (by simp [go_sem, c0])) rfl (hW.keep (by decide))
    | 3, ho, hi, hdep =>
      cases ho
      have da0 : ac.eval (.tmp 7) = .int .i64 c := hF.2.2.2 2 7 _ rfl (hdep ⟨2, .data⟩ (by simp) rfl)
      exact Ord.ex_value y rfl rfl (Rg.bin da0 rfl rfl (QU.out _)) rfl (hW.keep (by decide))
    | 4, ho, hi, hdep =>
      cases ho
      have da0 : ac.eval (.tmp 2) = .pointer (some ⟨w.heap.size, 0, none⟩) := hF.old 2 rfl
      obtain ⟨kq, hlo, hhi, hA⟩ := hW.range 0 0 (.inl rfl) (.inr ⟨5, rfl, (Rg.no_of (fun h => hcl 5 _ rfl (h) ⟨4, .data⟩ (by simp) rfl) hi)⟩)
      obtain ⟨c0, c1, c2, c3, c4⟩ := cells5 hA (.head _)
      exact Ord.ex_value y rfl rfl (Rg.load da0 rfl (by simp [go_sem, c0, c1, c2, c3, c4])) rfl (hW.keep (by decide))
    | 5, ho, hi, hdep =>
      cases ho
      have da0 : ac.eval (.tmp 9) = .agg #[.int .i64 c, .int .i64 s, .int .i64 p, .int .i64 m, .int .i64 k] := hF.2.2.2 4 9 _ rfl (hdep ⟨4, .data⟩ (by simp) rfl)
      have hA := hW.at (k := 0) rfl hi (.inl rfl)
      refine Rg.ex_call y rfl rfl (Rg.enter (args := #[.agg #[.int .i64 c, .int .i64 s, .int .i64 p, .int .i64 m, .int .i64 k]]) rfl rfl (by simp [da0]) EL.out) (Calls.mono (LO.out _) ?_)
      rintro e w2 ⟨rfl, rfl⟩
      exact ⟨rfl, hW.next (k := 0) rfl (by decide) hi (.inl rfl) (hA.later ((Below.refl _ _).alloc (Nat.le_refl _) _))⟩
    | 6, ho, hi, hdep =>
      cases ho
      have da0 : ac.eval (.tmp 1) = .slice (some ⟨b, 0, none⟩) 1 1 := hF.old 1 rfl
      exact Ord.ex_value y rfl rfl (Rg.mv da0 rfl) rfl (hW.keep (by decide))
    | 7, ho, hi, hdep =>
      cases ho
      have da0 : ac.eval (.tmp 8) = .int .i64 (c / 2) := hF.2.2.2 3 8 _ rfl (hdep ⟨3, .data⟩ (by simp) rfl)
      have da1 : ac.eval (.tmp 10) = .int .i64 (4 * m) := hF.2.2.2 5 10 _ rfl (hdep ⟨5, .data⟩ (by simp) rfl)
      have da2 : ac.eval (.tmp 11) = .slice (some ⟨b, 0, none⟩) 1 1 := hF.2.2.2 6 11 _ rfl (hdep ⟨6, .data⟩ (by simp) rfl)
      have hA := hW.at (k := 1) rfl hi (.inr ⟨5, rfl, (hdep ⟨5, .data⟩ (by simp) rfl)⟩)
      refine Rg.ex_call y rfl rfl (Rg.enter (args := #[.int .i64 (c / 2), .int .i64 (4 * m), .slice (some ⟨b, 0, none⟩) 1 1]) rfl rfl (by simp [da0, da1, da2]) EK.out) (Calls.mono (KE.out _ (HX.out.later hA.below)) ?_)
      rintro e w2 ⟨rfl, rfl⟩
      exact ⟨rfl, hW.next (k := 1) rfl (by decide) hi (.inr ⟨5, rfl, (hdep ⟨5, .data⟩ (by simp) rfl)⟩) hA⟩
    | 8, ho, hi, hdep =>
      cases ho
      have da0 : ac.eval (.tmp 12) = .int .i64 (min (max (c / 2) (4 * m)) x) := hF.2.2.2 7 12 _ rfl (hdep ⟨7, .data⟩ (by simp) rfl)
      exact Ord.ex_value y rfl rfl (Rg.asg da0 rfl) rfl (hW.keep (by decide))
  case refine_2 =>
    intro y w' hW
    have hw := hidden hW.last
    clear hW
    simp only [Ord.puts, Ord.prs]
    go_simp
    go_wp2
    go_ret
    exact ⟨rfl, hw.out.below⟩
  case refine_3 => exact Rg.StM.first ((At.zero w).more _ _).drew.1
end Go.Proofs.Ytaaghlgleofcgaa.Cw
