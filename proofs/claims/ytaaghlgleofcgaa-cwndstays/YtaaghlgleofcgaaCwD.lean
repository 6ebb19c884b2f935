/-
  Windows in memory: bytes saved up; an acknowledgement; the functions that are handed in.
  Conditions: as at each lemma.
-/
import Derived.Test.YtaaghlgleofcgaaCwC
namespace Go.Proofs.Ytaaghlgleofcgaa.Cw
open Go.ChangeShapes Go.WideShapes Go.ChangeAt Go.RowKit
open Ba (hidden Has Only)
open Ow (Own)
set_option linter.unusedVariables false

theorem min_ {P : Program} {a : Act} {o : Oper} {w : World} {x y : Operand} {t t' : TypeId} {u v r : Value} (h0 : a.eval x = u) (h1 : a.eval y = v) (ho : o.op = .call { callee := .builtin .min, args := #[x, y], argTypes := #[t, t'] }) (hr : (Builtin.min_ #[t, t'] o.type #[u, v]).run P w = .ok r w) : (execOp a.eval o).run P w = .ok (.value r) w := by
  have e : execOp a.eval o = (do pure (.value (← Builtin.min_ #[t, t'] o.type #[a.eval x, a.eval y]))) := by
    unfold execOp
    rw [ho]
    simp [resolve, invoke, builtin]
  rw [e, h0, h1]
  exact Ord.run_v hr
section
variable {w : World} {b : Nat} {c s p m k y : Int}
set_option maxHeartbeats 1000000 in
theorem saveA (hp : 0 ≤ p ∧ p ≤ 1073741824) (hy : 0 ≤ y ∧ y ≤ 1073741824) (hc : 0 ≤ c ∧ c ≤ 1073741824) (hm : 0 ≤ m ∧ m ≤ 1500) (hq : c ≤ p + y) (h : Has w b #[.int .i64 c, .int .i64 s, .int .i64 p, .int .i64 m, .int .i64 k, .int .i64 y] 50) : Calls Try.prog 44 #[.pointer (some ⟨b, 0, none⟩), .bool true] w fun e w' => e = .returned (.tuple #[]) ∧ Has w' b #[.int .i64 (min (max (c + m) m) k), .int .i64 s, .int .i64 (min (max (p + y - c) 0) (min (max (c + m) m) k)), .int .i64 m, .int .i64 k, .int .i64 y] 50 ∧ Only [b] w w' := by
  have H := hidden h
  obtain ⟨c0, c1, c2, c3, c4, c5⟩ := cells6 h
  have AD := hidden (add_ (x := p) (y := y) (by omega))
  have EK : Hid (∀ (args : Array Value) (w : World), (callFunc 40 args).run Try.prog w = .ok (.enter 40 args) w) := enters_of Try.func40 (by kernel_rfl) rfl
  have EW : Hid (∀ (args : Array Value) (w : World), (callFunc 31 args).run Try.prog w = .ok (.enter 31 args) w) := enters_of Try.func31 (by kernel_rfl) rfl
  have WD : Hid (∀ W, Has W b #[.int .i64 c, .int .i64 s, .int .i64 (p + y - c), .int .i64 m, .int .i64 k, .int .i64 y] 50 → Calls Try.prog 31 #[.pointer (some ⟨b, 0, none⟩), .int .i64 m] W fun e w' => e = .returned (.tuple #[]) ∧ Has w' b #[.int .i64 (min (max (c + m) m) k), .int .i64 s, .int .i64 (p + y - c), .int .i64 m, .int .i64 k, .int .i64 y] 50 ∧ Only [b] W w') := fun W h => widen (by omega) h
  clear h hm
  go_enter Try.func44, Try.ntmps44
  go_upto_region 1 with fail
  clear c0 c1 c2 c3 c4 c5
  refine Ord.wp_region_ex0 (X := Unit) (by kernel_rfl) 78 (fun x => [(some 11, .pointer (some ⟨b, 0, none⟩)), (some 12, .pointer (some ⟨b, 0, none⟩)), (some 13, .pointer (some ⟨b, 0, none⟩)), (some 14, .pointer (some ⟨b, 0, none⟩)), (some 15, .pointer (some ⟨b, 2, none⟩)), (some 16, .int .i64 p), (some 17, .pointer (some ⟨b, 0, none⟩)), (some 18, .pointer (some ⟨b, 0, none⟩)), (some 19, .pointer (some ⟨b, 5, none⟩)), (some 20, .int .i64 y), (some 21, .int .i64 (p + y)), (some 22, .pointer (some ⟨b, 0, none⟩)), (some 23, .pointer (some ⟨b, 0, none⟩)), (some 24, .pointer (some ⟨b, 0, none⟩)), (some 25, .pointer (some ⟨b, 2, none⟩)), (none, undef)]) [some 11, some 12, some 13, some 14, some 15, some 16, some 17, some 18, some 19, some 20, some 21, some 22, some 23, some 24, some 25, none] rfl (fun listed hsz hr => Ord.all_listedC (rank := [0, 1, 2, 3, 4, 5, 6, 7, 8, 9, 10, 11, 12, 13, 14, 15]) (by kernel_rfl) hsz hr) (by rfl) (fun _ => rfl) (by kernel_rfl) (Rg.StM [15] (fun kA _ w' => (kA = 0 → Has w' b #[.int .i64 c, .int .i64 s, .int .i64 p, .int .i64 m, .int .i64 k, .int .i64 y] 50 ∧ Only [b] w w') ∧ (1 ≤ kA → Has w' b #[.int .i64 c, .int .i64 s, .int .i64 (p + y), .int .i64 m, .int .i64 k, .int .i64 y] 50 ∧ Only [b] w w'))) (fun _ _ _ _ hL h => h.ext (n := 16) (by decide) hL) ?_ ?_ () ?_
  case refine_1 =>
    intro x Lq iq oq ac w' ho hi hcl hdep hF hW
    have f1 : ac.tmps.size = 78 := hF.1
    match iq, ho, hi, hdep with
    | 0, ho, hi, hdep =>
      cases ho
      have da0 : ac.eval (.tmp 0) = .pointer (some ⟨b, 0, none⟩) := hF.old 0 rfl
      exact Ord.ex_value x rfl rfl (Rg.mv da0 rfl) rfl (hW.keep (by decide))
    | 1, ho, hi, hdep =>
      cases ho
      have da0 : ac.eval (.tmp 11) = .pointer (some ⟨b, 0, none⟩) := hF.2.2.2 0 11 _ rfl (hdep ⟨0, .data⟩ (by simp) rfl)
      exact Ord.ex_value x rfl rfl (Rg.nilc da0 rfl) rfl (hW.keep (by decide))
    | 2, ho, hi, hdep =>
      cases ho
      have da0 : ac.eval (.tmp 12) = .pointer (some ⟨b, 0, none⟩) := hF.2.2.2 1 12 _ rfl (hdep ⟨1, .data⟩ (by simp) rfl)
      exact Ord.ex_value x rfl rfl (Rg.fa da0 rfl (by simp [go_sem])) rfl (hW.keep (by decide))
    | 3, ho, hi, hdep =>
      cases ho
      have da0 : ac.eval (.tmp 13) = .pointer (some ⟨b, 0, none⟩) := hF.2.2.2 2 13 _ rfl (hdep ⟨2, .data⟩ (by simp) rfl)
      exact Ord.ex_value x rfl rfl (Rg.fa da0 rfl (by simp [go_sem])) rfl (hW.keep (by decide))
    | 4, ho, hi, hdep =>
      cases ho
      have da0 : ac.eval (.tmp 14) = .pointer (some ⟨b, 0, none⟩) := hF.2.2.2 3 14 _ rfl (hdep ⟨3, .data⟩ (by simp) rfl)
      exact Ord.ex_value x rfl rfl (Rg.fa da0 rfl (by simp [go_sem])) rfl (hW.keep (by decide))
    | 5, ho, hi, hdep =>
      cases ho
      have da0 : ac.eval (.tmp 15) = .pointer (some ⟨b, 2, none⟩) := hF.2.2.2 4 15 _ rfl (hdep ⟨4, .data⟩ (by simp) rfl)
      obtain ⟨kq, hlo, hhi, hA⟩ := hW.range 0 0 (.inl rfl) (.inr ⟨15, rfl, (Rg.no_of (fun h => hcl 15 _ rfl (h) ⟨5, .phase⟩ (by simp) rfl) hi)⟩)
      obtain ⟨c0, c1, c2, c3, c4, c5⟩ := cells6 (hA.1 (by omega)).1
      exact Ord.ex_value x rfl rfl (Rg.load da0 rfl (by simp [go_sem, c2])) rfl (hW.keep (by decide))
    | 6, ho, hi, hdep =>
      cases ho
      have da0 : ac.eval (.tmp 0) = .pointer (some ⟨b, 0, none⟩) := hF.old 0 rfl
      exact Ord.ex_value x rfl rfl (Rg.mv da0 rfl) rfl (hW.keep (by decide))
    | 7, ho, hi, hdep =>
      cases ho
      have da0 : ac.eval (.tmp 17) = .pointer (some ⟨b, 0, none⟩) := hF.2.2.2 6 17 _ rfl (hdep ⟨6, .data⟩ (by simp) rfl)
      exact Ord.ex_value x rfl rfl (Rg.nilc da0 rfl) rfl (hW.keep (by decide))
    | 8, ho, hi, hdep =>
      cases ho
      have da0 : ac.eval (.tmp 18) = .pointer (some ⟨b, 0, none⟩) := hF.2.2.2 7 18 _ rfl (hdep ⟨7, .data⟩ (by simp) rfl)
      exact Ord.ex_value x rfl rfl (Rg.fa da0 rfl (by simp [go_sem])) rfl (hW.keep (by decide))
    | 9, ho, hi, hdep =>
      cases ho
      have da0 : ac.eval (.tmp 19) = .pointer (some ⟨b, 5, none⟩) := hF.2.2.2 8 19 _ rfl (hdep ⟨8, .data⟩ (by simp) rfl)
      obtain ⟨kq, hlo, hhi, hA⟩ := hW.range 0 0 (.inl rfl) (.inr ⟨15, rfl, (Rg.no_of (fun h => hcl 15 _ rfl (h) ⟨9, .phase⟩ (by simp) rfl) hi)⟩)
      obtain ⟨c0, c1, c2, c3, c4, c5⟩ := cells6 (hA.1 (by omega)).1
      exact Ord.ex_value x rfl rfl (Rg.load da0 rfl (by simp [go_sem, c5])) rfl (hW.keep (by decide))
    | 10, ho, hi, hdep =>
      cases ho
      have da0 : ac.eval (.tmp 16) = .int .i64 p := hF.2.2.2 5 16 _ rfl (hdep ⟨5, .data⟩ (by simp) rfl)
      have da1 : ac.eval (.tmp 20) = .int .i64 y := hF.2.2.2 9 20 _ rfl (hdep ⟨9, .data⟩ (by simp) rfl)
      exact Ord.ex_value x rfl rfl (Rg.bin da0 da1 rfl (AD.out _ _ _)) rfl (hW.keep (by decide))
    | 11, ho, hi, hdep =>
      cases ho
      have da0 : ac.eval (.tmp 11) = .pointer (some ⟨b, 0, none⟩) := hF.2.2.2 0 11 _ rfl (hdep ⟨0, .data⟩ (by simp) rfl)
      exact Ord.ex_value x rfl rfl (Rg.nilc da0 rfl) rfl (hW.keep (by decide))
    | 12, ho, hi, hdep =>
      cases ho
      have da0 : ac.eval (.tmp 22) = .pointer (some ⟨b, 0, none⟩) := hF.2.2.2 11 22 _ rfl (hdep ⟨11, .data⟩ (by simp) rfl)
      exact Ord.ex_value x rfl rfl (Rg.fa da0 rfl (by simp [go_sem])) rfl (hW.keep (by decide))
    | 13, ho, hi, hdep =>
      cases ho
      have da0 : ac.eval (.tmp 23) = .pointer (some ⟨b, 0, none⟩) := hF.2.2.2 12 23 _ rfl (hdep ⟨12, .data⟩ (by simp) rfl)
      exact Ord.ex_value x rfl rfl (Rg.fa da0 rfl (by simp [go_sem])) rfl (hW.keep (by decide))
    | 14, ho, hi, hdep =>
      cases ho
      have da0 : ac.eval (.tmp 24) = .pointer (some ⟨b, 0, none⟩) := hF.2.2.2 13 24 _ rfl (hdep ⟨13, .data⟩ (by simp) rfl)
      exact Ord.ex_value x rfl rfl (Rg.fa da0 rfl (by simp [go_sem])) rfl (hW.keep (by decide))
    | 15, ho, hi, hdep =>
      cases ho
      have da0 : ac.eval (.tmp 25) = .pointer (some ⟨b, 2, none⟩) := hF.2.2.2 14 25 _ rfl (hdep ⟨14, .data⟩ (by simp) rfl)
      have da1 : ac.eval (.tmp 21) = .int .i64 (p + y) := hF.2.2.2 10 21 _ rfl (hdep ⟨10, .data⟩ (by simp) rfl)
      have hA := hW.at (k := 0) rfl hi (.inl rfl)
      obtain ⟨c0, c1, c2, c3, c4, c5⟩ := cells6 (hA.1 (by omega)).1
      have fz := (hA.1 (by omega)).1.frozen 2
      exact Rg.ex_skip x rfl rfl (Rg.sto da0 da1 rfl (by simp [go_sem, c2, fz])) rfl (hW.next (k := 0) rfl (by decide) hi (.inl rfl) ⟨fun h => absurd h (by decide), fun _ => ⟨(hA.1 (by omega)).1.set 2 _, (hA.1 (by omega)).2.then (Only.setCell _ (by simp) _)⟩⟩)
  case refine_2 =>
    intro x w1 hW
    have hw := hidden (hW.last.2 (by decide))
    clear hW
    simp only [Ord.puts, Ord.prs]
    go_simp
    obtain ⟨c0, c1, c2, c3, c4, c5⟩ := cells6 hw.out.1
    have f2 := hw.out.1.frozen 2
    have H2 : Hid (Has (w1.setCell ⟨b, 2, none⟩ (.int .i64 (p + y - c))) b #[.int .i64 c, .int .i64 s, .int .i64 (p + y - c), .int .i64 m, .int .i64 k, .int .i64 y] 50 ∧ Only [b] w (w1.setCell ⟨b, 2, none⟩ (.int .i64 (p + y - c)))) := ⟨hw.out.1.set 2 _, hw.out.2.then (Only.setCell _ (by simp) _)⟩
    clear hw
    go_upto_region 4 with fail
    clear c0 c1 c2 c3 c4 c5 f2 hp hy hc hq
    refine Ord.wp_region_ex0 (X := Unit) (by kernel_rfl) 78 (fun x => [(some 49, .pointer (some ⟨b, 0, none⟩)), (some 50, .pointer (some ⟨b, 0, none⟩)), (some 51, .pointer (some ⟨b, 0, none⟩)), (some 52, .pointer (some ⟨b, 0, none⟩)), (some 53, .pointer (some ⟨b, 0, none⟩)), (some 54, .pointer (some ⟨b, 0, none⟩)), (some 55, .pointer (some ⟨b, 0, none⟩)), (some 56, .pointer (some ⟨b, 3, none⟩)), (some 57, .int .i64 m), (some 58, .tuple #[])]) [some 49, some 50, some 51, some 52, some 53, some 54, some 55, some 56, some 57, some 58] rfl (fun listed hsz hr => Ord.all_listedC (rank := [0, 1, 2, 3, 4, 5, 6, 7, 8, 9]) (by kernel_rfl) hsz hr) (by rfl) (fun _ => rfl) (by kernel_rfl) (Rg.StM [9] (fun kA _ w' => (kA = 0 → Has w' b #[.int .i64 c, .int .i64 s, .int .i64 (p + y - c), .int .i64 m, .int .i64 k, .int .i64 y] 50 ∧ Only [b] w w') ∧ (1 ≤ kA → Has w' b #[.int .i64 (min (max (c + m) m) k), .int .i64 s, .int .i64 (p + y - c), .int .i64 m, .int .i64 k, .int .i64 y] 50 ∧ Only [b] w w'))) (fun _ _ _ _ hL h => h.ext (n := 10) (by decide) hL) ?_ ?_ () ?_
    case refine_1 =>
      intro x Lq iq oq ac w' ho hi hcl hdep hF hW
      have f1 : ac.tmps.size = 78 := hF.1
      match iq, ho, hi, hdep with
      | 0, ho, hi, hdep =>
        cases ho
        have da0 : ac.eval (.tmp 0) = .pointer (some ⟨b, 0, none⟩) := hF.old 0 rfl
        exact Ord.ex_value x rfl rfl (Rg.mv da0 rfl) rfl (hW.keep (by decide))
      | 1, ho, hi, hdep =>
        cases ho
        have da0 : ac.eval (.tmp 49) = .pointer (some ⟨b, 0, none⟩) := hF.2.2.2 0 49 _ rfl (hdep ⟨0, .data⟩ (by simp) rfl)
        exact Ord.ex_value x rfl rfl (Rg.nilc da0 rfl) rfl (hW.keep (by decide))
      | 2, ho, hi, hdep =>
        cases ho
        have da0 : ac.eval (.tmp 50) = .pointer (some ⟨b, 0, none⟩) := hF.2.2.2 1 50 _ rfl (hdep ⟨1, .data⟩ (by simp) rfl)
        exact Ord.ex_value x rfl rfl (Rg.fa da0 rfl (by simp [go_sem])) rfl (hW.keep (by decide))
      | 3, ho, hi, hdep =>
        cases ho
        have da0 : ac.eval (.tmp 0) = .pointer (some ⟨b, 0, none⟩) := hF.old 0 rfl
        exact Ord.ex_value x rfl rfl (Rg.mv da0 rfl) rfl (hW.keep (by decide))
      | 4, ho, hi, hdep =>
        cases ho
        have da0 : ac.eval (.tmp 52) = .pointer (some ⟨b, 0, none⟩) := hF.2.2.2 3 52 _ rfl (hdep ⟨3, .data⟩ (by simp) rfl)
        exact Ord.ex_value x rfl rfl (Rg.nilc da0 rfl) rfl (hW.keep (by decide))
      | 5, ho, hi, hdep =>
        cases ho
        have da0 : ac.eval (.tmp 53) = .pointer (some ⟨b, 0, none⟩) := hF.2.2.2 4 53 _ rfl (hdep ⟨4, .data⟩ (by simp) rfl)
        exact Ord.ex_value x rfl rfl (Rg.fa da0 rfl (by simp [go_sem])) rfl (hW.keep (by decide))
      | 6, ho, hi, hdep =>
        cases ho
        have da0 : ac.eval (.tmp 54) = .pointer (some ⟨b, 0, none⟩) := hF.2.2.2 5 54 _ rfl (hdep ⟨5, .data⟩ (by simp) rfl)
        exact Ord.ex_value x rfl rfl (Rg.fa da0 rfl (by simp [go_sem])) rfl (hW.keep (by decide))
      | 7, ho, hi, hdep =>
        cases ho
        have da0 : ac.eval (.tmp 55) = .pointer (some ⟨b, 0, none⟩) := hF.2.2.2 6 55 _ rfl (hdep ⟨6, .data⟩ (by simp) rfl)
        exact Ord.ex_value x rfl rfl (Rg.fa da0 rfl (by simp [go_sem])) rfl (hW.keep (by decide))
      | 8, ho, hi, hdep =>
        cases ho
        have da0 : ac.eval (.tmp 56) = .pointer (some ⟨b, 3, none⟩) := hF.2.2.2 7 56 _ rfl (hdep ⟨7, .data⟩ (by simp) rfl)
        obtain ⟨kq, hlo, hhi, hA⟩ := hW.range 0 0 (.inl rfl) (.inr ⟨9, rfl, (Rg.no_of (fun h => hcl 9 _ rfl (h) ⟨8, .data⟩ (by simp) rfl) hi)⟩)
        obtain ⟨c0, c1, c2, c3, c4, c5⟩ := cells6 (hA.1 (by omega)).1
        exact Ord.ex_value x rfl rfl (Rg.load da0 rfl (by simp [go_sem, c3])) rfl (hW.keep (by decide))
      | 9, ho, hi, hdep =>
        cases ho
        have da0 : ac.eval (.tmp 51) = .pointer (some ⟨b, 0, none⟩) := hF.2.2.2 2 51 _ rfl (hdep ⟨2, .data⟩ (by simp) rfl)
        have da1 : ac.eval (.tmp 57) = .int .i64 m := hF.2.2.2 8 57 _ rfl (hdep ⟨8, .data⟩ (by simp) rfl)
        have hA := hW.at (k := 0) rfl hi (.inl rfl)
        refine Rg.ex_call x rfl rfl (Rg.enter (args := #[.pointer (some ⟨b, 0, none⟩), .int .i64 m]) rfl rfl (by simp [da0, da1]) EW.out) (Calls.mono (WD.out _ (hA.1 (by omega)).1) ?_)
        rintro e w2 ⟨rfl, hH, hO⟩
        exact ⟨rfl, hW.next (k := 0) rfl (by decide) hi (.inl rfl) ⟨fun h => absurd h (by decide), fun _ => ⟨hH, (hA.1 (by omega)).2.then hO⟩⟩⟩
    case refine_2 =>
      intro x w3 hW
      have hw := hidden (hW.last.2 (by decide))
      clear hW
      simp only [Ord.puts, Ord.prs]
      go_simp
      have KE : Hid (∀ W, Has W w3.heap.size #[.int .i64 (min (max (c + m) m) k)] 3 → Calls Try.prog 40 #[.int .i64 (p + y - c), .int .i64 0, .slice (some ⟨w3.heap.size, 0, none⟩) 1 1] W fun e w' => e = .returned (.int .i64 (min (max (p + y - c) 0) (min (max (c + m) m) k))) ∧ W = w') := fun W h => keep1 h _ _
      go_upto_region 5 with fail
      refine Ord.wp_region_ex0 (X := Unit) (by kernel_rfl) 78 (fun x => [(some 59, .pointer (some ⟨b, 0, none⟩)), (some 60, .pointer (some ⟨b, 0, none⟩)), (some 61, .pointer (some ⟨b, 0, none⟩)), (some 62, .pointer (some ⟨b, 0, none⟩)), (some 63, .pointer (some ⟨b, 0, none⟩)), (some 64, .pointer (some ⟨b, 2, none⟩)), (some 65, .int .i64 (p + y - c)), (some 66, .pointer (some ⟨b, 0, none⟩)), (some 67, .pointer (some ⟨b, 0, none⟩)), (some 68, .pointer (some ⟨b, 0, none⟩)), (some 69, .pointer (some ⟨b, 0, none⟩)), (some 70, .pointer (some ⟨b, 0, none⟩)), (some 71, .int .i64 (min (max (c + m) m) k)), (some 72, .slice (some ⟨w3.heap.size, 0, none⟩) 1 1), (some 73, .int .i64 (min (max (p + y - c) 0) (min (max (c + m) m) k))), (some 74, .pointer (some ⟨b, 0, none⟩)), (some 75, .pointer (some ⟨b, 0, none⟩)), (some 76, .pointer (some ⟨b, 0, none⟩)), (some 77, .pointer (some ⟨b, 2, none⟩)), (none, undef)]) [some 59, some 60, some 61, some 62, some 63, some 64, some 65, some 66, some 67, some 68, some 69, some 70, some 71, some 72, some 73, some 74, some 75, some 76, some 77, none] rfl (fun listed hsz hr => Ord.all_listedC (rank := [0, 1, 2, 3, 4, 5, 6, 7, 8, 9, 10, 11, 12, 13, 14, 15, 16, 17, 18, 19]) (by kernel_rfl) hsz hr) (by rfl) (fun _ => rfl) (by kernel_rfl) (Rg.StM [13, 14, 19] (fun kA _ w' => Bk3 w b w3.heap.size #[.int .i64 (min (max (c + m) m) k), .int .i64 s, .int .i64 (p + y - c), .int .i64 m, .int .i64 k, .int .i64 y] #[.int .i64 (min (max (c + m) m) k), .int .i64 s, .int .i64 (min (max (p + y - c) 0) (min (max (c + m) m) k)), .int .i64 m, .int .i64 k, .int .i64 y] #[.int .i64 (min (max (c + m) m) k)] kA w')) (fun _ _ _ _ hL h => h.ext (n := 20) (by decide) hL) ?_ ?_ () ?_
      case refine_1 =>
        intro x Lq iq oq ac w' ho hi hcl hdep hF hW
        have f1 : ac.tmps.size = 78 := hF.1
        match iq, ho, hi, hdep with
        | 0, ho, hi, hdep =>
          cases ho
          have da0 : ac.eval (.tmp 0) = .pointer (some ⟨b, 0, none⟩) := hF.old 0 rfl
          exact Ord.ex_value x rfl rfl (Rg.mv da0 rfl) rfl (hW.keep (by decide))
        | 1, ho, hi, hdep =>
          cases ho
          have da0 : ac.eval (.tmp 0) = .pointer (some ⟨b, 0, none⟩) := hF.old 0 rfl
          exact Ord.ex_value x rfl rfl (Rg.mv da0 rfl) rfl (hW.keep (by decide))
        | 2, ho, hi, hdep =>
          cases ho
          have da0 : ac.eval (.tmp 60) = .pointer (some ⟨b, 0, none⟩) := hF.2.2.2 1 60 _ rfl (hdep ⟨1, .data⟩ (by simp) rfl)
          exact Ord.ex_value x rfl rfl (Rg.nilc da0 rfl) rfl (hW.keep (by decide))
        | 3, ho, hi, hdep =>
          cases ho
          have da0 : ac.eval (.tmp 61) = .pointer (some ⟨b, 0, none⟩) := hF.2.2.2 2 61 _ rfl (hdep ⟨2, .data⟩ (by simp) rfl)
          exact Ord.ex_value x rfl rfl (Rg.fa da0 rfl (by simp [go_sem])) rfl (hW.keep (by decide))
        | 4, ho, hi, hdep =>
          cases ho
          have da0 : ac.eval (.tmp 62) = .pointer (some ⟨b, 0, none⟩) := hF.2.2.2 3 62 _ rfl (hdep ⟨3, .data⟩ (by simp) rfl)
          exact Ord.ex_value x rfl rfl (Rg.fa da0 rfl (by simp [go_sem])) rfl (hW.keep (by decide))
        | 5, ho, hi, hdep =>
          cases ho
          have da0 : ac.eval (.tmp 63) = .pointer (some ⟨b, 0, none⟩) := hF.2.2.2 4 63 _ rfl (hdep ⟨4, .data⟩ (by simp) rfl)
          exact Ord.ex_value x rfl rfl (Rg.fa da0 rfl (by simp [go_sem])) rfl (hW.keep (by decide))
        | 6, ho, hi, hdep =>
          cases ho
          have da0 : ac.eval (.tmp 64) = .pointer (some ⟨b, 2, none⟩) := hF.2.2.2 5 64 _ rfl (hdep ⟨5, .data⟩ (by simp) rfl)
          obtain ⟨kq, hlo, hhi, hA⟩ := hW.range 0 1 (.inl rfl) (.inr ⟨14, rfl, (Rg.no_of (fun h => hcl 14 _ rfl (h) ⟨6, .data⟩ (by simp) rfl) hi)⟩)
          obtain ⟨c0, c1, c2, c3, c4, c5⟩ := cells6 (hA.old (by omega))
          exact Ord.ex_value x rfl rfl (Rg.load da0 rfl (by simp [go_sem, c2])) rfl (hW.keep (by decide))
        | 7, ho, hi, hdep =>
          cases ho
          have da0 : ac.eval (.tmp 0) = .pointer (some ⟨b, 0, none⟩) := hF.old 0 rfl
          exact Ord.ex_value x rfl rfl (Rg.mv da0 rfl) rfl (hW.keep (by decide))
        | 8, ho, hi, hdep =>
          cases ho
          have da0 : ac.eval (.tmp 66) = .pointer (some ⟨b, 0, none⟩) := hF.2.2.2 7 66 _ rfl (hdep ⟨7, .data⟩ (by simp) rfl)
          exact Ord.ex_value x rfl rfl (Rg.nilc da0 rfl) rfl (hW.keep (by decide))
        | 9, ho, hi, hdep =>
          cases ho
          have da0 : ac.eval (.tmp 67) = .pointer (some ⟨b, 0, none⟩) := hF.2.2.2 8 67 _ rfl (hdep ⟨8, .data⟩ (by simp) rfl)
          exact Ord.ex_value x rfl rfl (Rg.fa da0 rfl (by simp [go_sem])) rfl (hW.keep (by decide))
        | 10, ho, hi, hdep =>
          cases ho
          have da0 : ac.eval (.tmp 68) = .pointer (some ⟨b, 0, none⟩) := hF.2.2.2 9 68 _ rfl (hdep ⟨9, .data⟩ (by simp) rfl)
          exact Ord.ex_value x rfl rfl (Rg.fa da0 rfl (by simp [go_sem])) rfl (hW.keep (by decide))
        | 11, ho, hi, hdep =>
          cases ho
          have da0 : ac.eval (.tmp 69) = .pointer (some ⟨b, 0, none⟩) := hF.2.2.2 10 69 _ rfl (hdep ⟨10, .data⟩ (by simp) rfl)
          exact Ord.ex_value x rfl rfl (Rg.fa da0 rfl (by simp [go_sem])) rfl (hW.keep (by decide))
        | 12, ho, hi, hdep =>
          cases ho
          have da0 : ac.eval (.tmp 70) = .pointer (some ⟨b, 0, none⟩) := hF.2.2.2 11 70 _ rfl (hdep ⟨11, .data⟩ (by simp) rfl)
          obtain ⟨kq, hlo, hhi, hA⟩ := hW.range 0 0 (.inl rfl) (.inr ⟨13, rfl, (Rg.no_of (fun h => hcl 13 _ rfl (h) ⟨12, .data⟩ (by simp) rfl) hi)⟩)
          obtain ⟨c0, c1, c2, c3, c4, c5⟩ := cells6 (hA.old (by omega))
          exact Ord.ex_value x rfl rfl (Rg.load da0 rfl (by simp [go_sem, c0])) rfl (hW.keep (by decide))
        | 13, ho, hi, hdep =>
          cases ho
          have da0 : ac.eval (.tmp 71) = .int .i64 (min (max (c + m) m) k) := hF.2.2.2 12 71 _ rfl (hdep ⟨12, .data⟩ (by simp) rfl)
          have hA := hW.at (k := 0) rfl hi (.inl rfl)
          exact Ord.ex_value x rfl rfl (Rg.bsl rfl (by simp [da0]) (bs1 hA.size _)) rfl (hW.next (k := 0) rfl (by decide) hi (.inl rfl) hA.build)
        | 14, ho, hi, hdep =>
          cases ho
          have da0 : ac.eval (.tmp 65) = .int .i64 (p + y - c) := hF.2.2.2 6 65 _ rfl (hdep ⟨6, .data⟩ (by simp) rfl)
          have da1 : ac.eval (.tmp 72) = .slice (some ⟨w3.heap.size, 0, none⟩) 1 1 := hF.2.2.2 13 72 _ rfl (hdep ⟨13, .data⟩ (by simp) rfl)
          have hA := hW.at (k := 1) rfl hi (.inr ⟨13, rfl, (hdep ⟨13, .data⟩ (by simp) rfl)⟩)
          refine Rg.ex_call x rfl rfl (Rg.enter (args := #[.int .i64 (p + y - c), .int .i64 0, .slice (some ⟨w3.heap.size, 0, none⟩) 1 1]) rfl rfl (by simp [da0, da1, ev_const]) EK.out) (Calls.mono (KE.out _ hA.new) ?_)
          rintro e w2 ⟨rfl, rfl⟩
          exact ⟨rfl, hW.next (k := 1) rfl (by decide) hi (.inr ⟨13, rfl, (hdep ⟨13, .data⟩ (by simp) rfl)⟩) (hA.call (Below.refl _ _))⟩
        | 15, ho, hi, hdep =>
          cases ho
          have da0 : ac.eval (.tmp 59) = .pointer (some ⟨b, 0, none⟩) := hF.2.2.2 0 59 _ rfl (hdep ⟨0, .data⟩ (by simp) rfl)
          exact Ord.ex_value x rfl rfl (Rg.nilc da0 rfl) rfl (hW.keep (by decide))
        | 16, ho, hi, hdep =>
          cases ho
          have da0 : ac.eval (.tmp 74) = .pointer (some ⟨b, 0, none⟩) := hF.2.2.2 15 74 _ rfl (hdep ⟨15, .data⟩ (by simp) rfl)
          exact Ord.ex_value x rfl rfl (Rg.fa da0 rfl (by simp [go_sem])) rfl (hW.keep (by decide))
        | 17, ho, hi, hdep =>
          cases ho
          have da0 : ac.eval (.tmp 75) = .pointer (some ⟨b, 0, none⟩) := hF.2.2.2 16 75 _ rfl (hdep ⟨16, .data⟩ (by simp) rfl)
          exact Ord.ex_value x rfl rfl (Rg.fa da0 rfl (by simp [go_sem])) rfl (hW.keep (by decide))
        | 18, ho, hi, hdep =>
          cases ho
          have da0 : ac.eval (.tmp 76) = .pointer (some ⟨b, 0, none⟩) := hF.2.2.2 17 76 _ rfl (hdep ⟨17, .data⟩ (by simp) rfl)
          exact Ord.ex_value x rfl rfl (Rg.fa da0 rfl (by simp [go_sem])) rfl (hW.keep (by decide))
        | 19, ho, hi, hdep =>
          cases ho
          have da0 : ac.eval (.tmp 77) = .pointer (some ⟨b, 2, none⟩) := hF.2.2.2 18 77 _ rfl (hdep ⟨18, .data⟩ (by simp) rfl)
          have da1 : ac.eval (.tmp 73) = .int .i64 (min (max (p + y - c) 0) (min (max (c + m) m) k)) := hF.2.2.2 14 73 _ rfl (hdep ⟨14, .data⟩ (by simp) rfl)
          have hA := hW.at (k := 2) rfl hi (.inr ⟨14, rfl, (hdep ⟨14, .data⟩ (by simp) rfl)⟩)
          obtain ⟨c0, c1, c2, c3, c4, c5⟩ := cells6 (hA.old (by omega))
          have fz := (hA.old (by omega)).frozen 2
          exact Rg.ex_skip x rfl rfl (Rg.sto da0 da1 rfl (by simp [go_sem, c2, fz])) rfl (hW.next (k := 2) rfl (by decide) hi (.inr ⟨14, rfl, (hdep ⟨14, .data⟩ (by simp) rfl)⟩) (hA.store 2 _ rfl))
      case refine_2 =>
        intro x w' hW
        have hv := hidden hW.last.out
        clear hW
        simp only [Ord.puts, Ord.prs]
        go_simp
        go_wp2
        go_end0
        exact ⟨rfl, hv.out⟩
      case refine_3 => exact Rg.StM.first (Bk3.first hw.out.2 hw.out.1 rfl)
    case refine_3 => exact Rg.StM.first ⟨fun _ => ⟨H2.out.1, H2.out.2.drew⟩, fun h => absurd h (by decide)⟩
  case refine_3 => exact Rg.StM.first ⟨fun _ => ⟨H.out, (Only.refl _ w).drew⟩, fun h => absurd h (by decide)⟩
set_option maxHeartbeats 1000000 in
theorem saveB (hp : 0 ≤ p ∧ p ≤ 1073741824) (hy : 0 ≤ y ∧ y ≤ 1073741824) (hc : 0 ≤ c ∧ c ≤ 1073741824) (hq : p + y < c) (h : Has w b #[.int .i64 c, .int .i64 s, .int .i64 p, .int .i64 m, .int .i64 k, .int .i64 y] 50) : Calls Try.prog 44 #[.pointer (some ⟨b, 0, none⟩), .bool true] w fun e w' => e = .returned (.tuple #[]) ∧ Has w' b #[.int .i64 c, .int .i64 s, .int .i64 (min (max (p + y) 0) c), .int .i64 m, .int .i64 k, .int .i64 y] 50 ∧ Only [b] w w' := by
  have H := hidden h
  obtain ⟨c0, c1, c2, c3, c4, c5⟩ := cells6 h
  have AD := hidden (add_ (x := p) (y := y) (by omega))
  have EK : Hid (∀ (args : Array Value) (w : World), (callFunc 40 args).run Try.prog w = .ok (.enter 40 args) w) := enters_of Try.func40 (by kernel_rfl) rfl
  clear h
  go_enter Try.func44, Try.ntmps44
  go_upto_region 1 with fail
  clear c0 c1 c2 c3 c4 c5
  refine Ord.wp_region_ex0 (X := Unit) (by kernel_rfl) 78 (fun x => [(some 11, .pointer (some ⟨b, 0, none⟩)), (some 12, .pointer (some ⟨b, 0, none⟩)), (some 13, .pointer (some ⟨b, 0, none⟩)), (some 14, .pointer (some ⟨b, 0, none⟩)), (some 15, .pointer (some ⟨b, 2, none⟩)), (some 16, .int .i64 p), (some 17, .pointer (some ⟨b, 0, none⟩)), (some 18, .pointer (some ⟨b, 0, none⟩)), (some 19, .pointer (some ⟨b, 5, none⟩)), (some 20, .int .i64 y), (some 21, .int .i64 (p + y)), (some 22, .pointer (some ⟨b, 0, none⟩)), (some 23, .pointer (some ⟨b, 0, none⟩)), (some 24, .pointer (some ⟨b, 0, none⟩)), (some 25, .pointer (some ⟨b, 2, none⟩)), (none, undef)]) [some 11, some 12, some 13, some 14, some 15, some 16, some 17, some 18, some 19, some 20, some 21, some 22, some 23, some 24, some 25, none] rfl (fun listed hsz hr => Ord.all_listedC (rank := [0, 1, 2, 3, 4, 5, 6, 7, 8, 9, 10, 11, 12, 13, 14, 15]) (by kernel_rfl) hsz hr) (by rfl) (fun _ => rfl) (by kernel_rfl) (Rg.StM [15] (fun kA _ w' => (kA = 0 → Has w' b #[.int .i64 c, .int .i64 s, .int .i64 p, .int .i64 m, .int .i64 k, .int .i64 y] 50 ∧ Only [b] w w') ∧ (1 ≤ kA → Has w' b #[.int .i64 c, .int .i64 s, .int .i64 (p + y), .int .i64 m, .int .i64 k, .int .i64 y] 50 ∧ Only [b] w w'))) (fun _ _ _ _ hL h => h.ext (n := 16) (by decide) hL) ?_ ?_ () ?_
  case refine_1 =>
    intro x Lq iq oq ac w' ho hi hcl hdep hF hW
    have f1 : ac.tmps.size = 78 := hF.1
    match iq, ho, hi, hdep with
    | 0, ho, hi, hdep =>
      cases ho
      have da0 : ac.eval (.tmp 0) = .pointer (some ⟨b, 0, none⟩) := hF.old 0 rfl
      exact Ord.ex_value x rfl rfl (Rg.mv da0 rfl) rfl (hW.keep (by decide))
    | 1, ho, hi, hdep =>
      cases ho
      have da0 : ac.eval (.tmp 11) = .pointer (some ⟨b, 0, none⟩) := hF.2.2.2 0 11 _ rfl (hdep ⟨0, .data⟩ (by simp) rfl)
      exact Ord.ex_value x rfl rfl (Rg.nilc da0 rfl) rfl (hW.keep (by decide))
    | 2, ho, hi, hdep =>
      cases ho
      have da0 : ac.eval (.tmp 12) = .pointer (some ⟨b, 0, none⟩) := hF.2.2.2 1 12 _ rfl (hdep ⟨1, .data⟩ (by simp) rfl)
      exact Ord.ex_value x rfl rfl (Rg.fa da0 rfl (by simp [go_sem])) rfl (hW.keep (by decide))
    | 3, ho, hi, hdep =>
      cases ho
      have da0 : ac.eval (.tmp 13) = .pointer (some ⟨b, 0, none⟩) := hF.2.2.2 2 13 _ rfl (hdep ⟨2, .data⟩ (by simp) rfl)
      exact Ord.ex_value x rfl rfl (Rg.fa da0 rfl (by simp [go_sem])) rfl (hW.keep (by decide))
    | 4, ho, hi, hdep =>
      cases ho
      have da0 : ac.eval (.tmp 14) = .pointer (some ⟨b, 0, none⟩) := hF.2.2.2 3 14 _ rfl (hdep ⟨3, .data⟩ (by simp) rfl)
      exact Ord.ex_value x rfl rfl (Rg.fa da0 rfl (by simp [go_sem])) rfl (hW.keep (by decide))
    | 5, ho, hi, hdep =>
      cases ho
      have da0 : ac.eval (.tmp 15) = .pointer (some ⟨b, 2, none⟩) := hF.2.2.2 4 15 _ rfl (hdep ⟨4, .data⟩ (by simp) rfl)
      obtain ⟨kq, hlo, hhi, hA⟩ := hW.range 0 0 (.inl rfl) (.inr ⟨15, rfl, (Rg.no_of (fun h => hcl 15 _ rfl (h) ⟨5, .phase⟩ (by simp) rfl) hi)⟩)
      obtain ⟨c0, c1, c2, c3, c4, c5⟩ := cells6 (hA.1 (by omega)).1
      exact Ord.ex_value x rfl rfl (Rg.load da0 rfl (by simp [go_sem, c2])) rfl (hW.keep (by decide))
    | 6, ho, hi, hdep =>
      cases ho
      have da0 : ac.eval (.tmp 0) = .pointer (some ⟨b, 0, none⟩) := hF.old 0 rfl
      exact Ord.ex_value x rfl rfl (Rg.mv da0 rfl) rfl (hW.keep (by decide))
    | 7, ho, hi, hdep =>
      cases ho
      have da0 : ac.eval (.tmp 17) = .pointer (some ⟨b, 0, none⟩) := hF.2.2.2 6 17 _ rfl (hdep ⟨6, .data⟩ (by simp) rfl)
      exact Ord.ex_value x rfl rfl (Rg.nilc da0 rfl) rfl (hW.keep (by decide))
    | 8, ho, hi, hdep =>
      cases ho
      have da0 : ac.eval (.tmp 18) = .pointer (some ⟨b, 0, none⟩) := hF.2.2.2 7 18 _ rfl (hdep ⟨7, .data⟩ (by simp) rfl)
      exact Ord.ex_value x rfl rfl (Rg.fa da0 rfl (by simp [go_sem])) rfl (hW.keep (by decide))
    | 9, ho, hi, hdep =>
      cases ho
      have da0 : ac.eval (.tmp 19) = .pointer (some ⟨b, 5, none⟩) := hF.2.2.2 8 19 _ rfl (hdep ⟨8, .data⟩ (by simp) rfl)
      obtain ⟨kq, hlo, hhi, hA⟩ := hW.range 0 0 (.inl rfl) (.inr ⟨15, rfl, (Rg.no_of (fun h => hcl 15 _ rfl (h) ⟨9, .phase⟩ (by simp) rfl) hi)⟩)
      obtain ⟨c0, c1, c2, c3, c4, c5⟩ := cells6 (hA.1 (by omega)).1
      exact Ord.ex_value x rfl rfl (Rg.load da0 rfl (by simp [go_sem, c5])) rfl (hW.keep (by decide))
    | 10, ho, hi, hdep =>
      cases ho
      have da0 : ac.eval (.tmp 16) = .int .i64 p := hF.2.2.2 5 16 _ rfl (hdep ⟨5, .data⟩ (by simp) rfl)
      have da1 : ac.eval (.tmp 20) = .int .i64 y := hF.2.2.2 9 20 _ rfl (hdep ⟨9, .data⟩ (by simp) rfl)
      exact Ord.ex_value x rfl rfl (Rg.bin da0 da1 rfl (AD.out _ _ _)) rfl (hW.keep (by decide))
    | 11, ho, hi, hdep =>
      cases ho
      have da0 : ac.eval (.tmp 11) = .pointer (some ⟨b, 0, none⟩) := hF.2.2.2 0 11 _ rfl (hdep ⟨0, .data⟩ (by simp) rfl)
      exact Ord.ex_value x rfl rfl (Rg.nilc da0 rfl) rfl (hW.keep (by decide))
    | 12, ho, hi, hdep =>
      cases ho
      have da0 : ac.eval (.tmp 22) = .pointer (some ⟨b, 0, none⟩) := hF.2.2.2 11 22 _ rfl (hdep ⟨11, .data⟩ (by simp) rfl)
      exact Ord.ex_value x rfl rfl (Rg.fa da0 rfl (by simp [go_sem])) rfl (hW.keep (by decide))
    | 13, ho, hi, hdep =>
      cases ho
      have da0 : ac.eval (.tmp 23) = .pointer (some ⟨b, 0, none⟩) := hF.2.2.2 12 23 _ rfl (hdep ⟨12, .data⟩ (by simp) rfl)
      exact Ord.ex_value x rfl rfl (Rg.fa da0 rfl (by simp [go_sem])) rfl (hW.keep (by decide))
    | 14, ho, hi, hdep =>
      cases ho
      have da0 : ac.eval (.tmp 24) = .pointer (some ⟨b, 0, none⟩) := hF.2.2.2 13 24 _ rfl (hdep ⟨13, .data⟩ (by simp) rfl)
      exact Ord.ex_value x rfl rfl (Rg.fa da0 rfl (by simp [go_sem])) rfl (hW.keep (by decide))
    | 15, ho, hi, hdep =>
      cases ho
      have da0 : ac.eval (.tmp 25) = .pointer (some ⟨b, 2, none⟩) := hF.2.2.2 14 25 _ rfl (hdep ⟨14, .data⟩ (by simp) rfl)
      have da1 : ac.eval (.tmp 21) = .int .i64 (p + y) := hF.2.2.2 10 21 _ rfl (hdep ⟨10, .data⟩ (by simp) rfl)
      have hA := hW.at (k := 0) rfl hi (.inl rfl)
      obtain ⟨c0, c1, c2, c3, c4, c5⟩ := cells6 (hA.1 (by omega)).1
      have fz := (hA.1 (by omega)).1.frozen 2
      exact Rg.ex_skip x rfl rfl (Rg.sto da0 da1 rfl (by simp [go_sem, c2, fz])) rfl (hW.next (k := 0) rfl (by decide) hi (.inl rfl) ⟨fun h => absurd h (by decide), fun _ => ⟨(hA.1 (by omega)).1.set 2 _, (hA.1 (by omega)).2.then (Only.setCell _ (by simp) _)⟩⟩)
  case refine_2 =>
    intro x w1 hW
    have hw := hidden (hW.last.2 (by decide))
    clear hW
    simp only [Ord.puts, Ord.prs]
    go_simp
    obtain ⟨c0, c1, c2, c3, c4, c5⟩ := cells6 hw.out.1
    have KE : Hid (∀ W, Has W w1.heap.size #[.int .i64 c] 3 → Calls Try.prog 40 #[.int .i64 (p + y), .int .i64 0, .slice (some ⟨w1.heap.size, 0, none⟩) 1 1] W fun e w' => e = .returned (.int .i64 (min (max (p + y) 0) c)) ∧ W = w') := fun W h => keep1 h _ _
    go_upto_region 5 with fail
    clear c0 c1 c2 c3 c4 c5
    refine Ord.wp_region_ex0 (X := Unit) (by kernel_rfl) 78 (fun x => [(some 59, .pointer (some ⟨b, 0, none⟩)), (some 60, .pointer (some ⟨b, 0, none⟩)), (some 61, .pointer (some ⟨b, 0, none⟩)), (some 62, .pointer (some ⟨b, 0, none⟩)), (some 63, .pointer (some ⟨b, 0, none⟩)), (some 64, .pointer (some ⟨b, 2, none⟩)), (some 65, .int .i64 (p + y)), (some 66, .pointer (some ⟨b, 0, none⟩)), (some 67, .pointer (some ⟨b, 0, none⟩)), (some 68, .pointer (some ⟨b, 0, none⟩)), (some 69, .pointer (some ⟨b, 0, none⟩)), (some 70, .pointer (some ⟨b, 0, none⟩)), (some 71, .int .i64 c), (some 72, .slice (some ⟨w1.heap.size, 0, none⟩) 1 1), (some 73, .int .i64 (min (max (p + y) 0) c)), (some 74, .pointer (some ⟨b, 0, none⟩)), (some 75, .pointer (some ⟨b, 0, none⟩)), (some 76, .pointer (some ⟨b, 0, none⟩)), (some 77, .pointer (some ⟨b, 2, none⟩)), (none, undef)]) [some 59, some 60, some 61, some 62, some 63, some 64, some 65, some 66, some 67, some 68, some 69, some 70, some 71, some 72, some 73, some 74, some 75, some 76, some 77, none] rfl (fun listed hsz hr => Ord.all_listedC (rank := [0, 1, 2, 3, 4, 5, 6, 7, 8, 9, 10, 11, 12, 13, 14, 15, 16, 17, 18, 19]) (by kernel_rfl) hsz hr) (by rfl) (fun _ => rfl) (by kernel_rfl) (Rg.StM [13, 14, 19] (fun kA _ w' => Bk3 w b w1.heap.size #[.int .i64 c, .int .i64 s, .int .i64 (p + y), .int .i64 m, .int .i64 k, .int .i64 y] #[.int .i64 c, .int .i64 s, .int .i64 (min (max (p + y) 0) c), .int .i64 m, .int .i64 k, .int .i64 y] #[.int .i64 c] kA w')) (fun _ _ _ _ hL h => h.ext (n := 20) (by decide) hL) ?_ ?_ () ?_
    case refine_1 =>
      intro x Lq iq oq ac w' ho hi hcl hdep hF hW
      have f1 : ac.tmps.size = 78 := hF.1
      match iq, ho, hi, hdep with
      | 0, ho, hi, hdep =>
        cases ho
        have da0 : ac.eval (.tmp 0) = .pointer (some ⟨b, 0, none⟩) := hF.old 0 rfl
        exact Ord.ex_value x rfl rfl (Rg.mv da0 rfl) rfl (hW.keep (by decide))
      | 1, ho, hi, hdep =>
        cases ho
        have da0 : ac.eval (.tmp 0) = .pointer (some ⟨b, 0, none⟩) := hF.old 0 rfl
        exact Ord.ex_value x rfl rfl (Rg.mv da0 rfl) rfl (hW.keep (by decide))
      | 2, ho, hi, hdep =>
        cases ho
        have da0 : ac.eval (.tmp 60) = .pointer (some ⟨b, 0, none⟩) := hF.2.2.2 1 60 _ rfl (hdep ⟨1, .data⟩ (by simp) rfl)
        exact Ord.ex_value x rfl rfl (Rg.nilc da0 rfl) rfl (hW.keep (by decide))
      | 3, ho, hi, hdep =>
        cases ho
        have da0 : ac.eval (.tmp 61) = .pointer (some ⟨b, 0, none⟩) := hF.2.2.2 2 61 _ rfl (hdep ⟨2, .data⟩ (by simp) rfl)
        exact Ord.ex_value x rfl rfl (Rg.fa da0 rfl (by simp [go_sem])) rfl (hW.keep (by decide))
      | 4, ho, hi, hdep =>
        cases ho
        have da0 : ac.eval (.tmp 62) = .pointer (some ⟨b, 0, none⟩) := hF.2.2.2 3 62 _ rfl (hdep ⟨3, .data⟩ (by simp) rfl)
        exact Ord.ex_value x rfl rfl (Rg.fa da0 rfl (by simp [go_sem])) rfl (hW.keep (by decide))
      | 5, ho, hi, hdep =>
        cases ho
        have da0 : ac.eval (.tmp 63) = .pointer (some ⟨b, 0, none⟩) := hF.2.2.2 4 63 _ rfl (hdep ⟨4, .data⟩ (by simp) rfl)
        exact Ord.ex_value x rfl rfl (Rg.fa da0 rfl (by simp [go_sem])) rfl (hW.keep (by decide))
      | 6, ho, hi, hdep =>
        cases ho
        have da0 : ac.eval (.tmp 64) = .pointer (some ⟨b, 2, none⟩) := hF.2.2.2 5 64 _ rfl (hdep ⟨5, .data⟩ (by simp) rfl)
        obtain ⟨kq, hlo, hhi, hA⟩ := hW.range 0 1 (.inl rfl) (.inr ⟨14, rfl, (Rg.no_of (fun h => hcl 14 _ rfl (h) ⟨6, .data⟩ (by simp) rfl) hi)⟩)
        obtain ⟨c0, c1, c2, c3, c4, c5⟩ := cells6 (hA.old (by omega))
        exact Ord.ex_value x rfl rfl (Rg.load da0 rfl (by simp [go_sem, c2])) rfl (hW.keep (by decide))
      | 7, ho, hi, hdep =>
        cases ho
        have da0 : ac.eval (.tmp 0) = .pointer (some ⟨b, 0, none⟩) := hF.old 0 rfl
        exact Ord.ex_value x rfl rfl (Rg.mv da0 rfl) rfl (hW.keep (by decide))
      | 8, ho, hi, hdep =>
        cases ho
        have da0 : ac.eval (.tmp 66) = .pointer (some ⟨b, 0, none⟩) := hF.2.2.2 7 66 _ rfl (hdep ⟨7, .data⟩ (by simp) rfl)
        exact Ord.ex_value x rfl rfl (Rg.nilc da0 rfl) rfl (hW.keep (by decide))
      | 9, ho, hi, hdep =>
        cases ho
        have da0 : ac.eval (.tmp 67) = .pointer (some ⟨b, 0, none⟩) := hF.2.2.2 8 67 _ rfl (hdep ⟨8, .data⟩ (by simp) rfl)
        exact Ord.ex_value x rfl rfl (Rg.fa da0 rfl (by simp [go_sem])) rfl (hW.keep (by decide))
      | 10, ho, hi, hdep =>
        cases ho
        have da0 : ac.eval (.tmp 68) = .pointer (some ⟨b, 0, none⟩) := hF.2.2.2 9 68 _ rfl (hdep ⟨9, .data⟩ (by simp) rfl)
        exact Ord.ex_value x rfl rfl (Rg.fa da0 rfl (by simp [go_sem])) rfl (hW.keep (by decide))
      | 11, ho, hi, hdep =>
        cases ho
        have da0 : ac.eval (.tmp 69) = .pointer (some ⟨b, 0, none⟩) := hF.2.2.2 10 69 _ rfl (hdep ⟨10, .data⟩ (by simp) rfl)
        exact Ord.ex_value x rfl rfl (Rg.fa da0 rfl (by simp [go_sem])) rfl (hW.keep (by decide))
      | 12, ho, hi, hdep =>
        cases ho
        have da0 : ac.eval (.tmp 70) = .pointer (some ⟨b, 0, none⟩) := hF.2.2.2 11 70 _ rfl (hdep ⟨11, .data⟩ (by simp) rfl)
        obtain ⟨kq, hlo, hhi, hA⟩ := hW.range 0 0 (.inl rfl) (.inr ⟨13, rfl, (Rg.no_of (fun h => hcl 13 _ rfl (h) ⟨12, .data⟩ (by simp) rfl) hi)⟩)
        obtain ⟨c0, c1, c2, c3, c4, c5⟩ := cells6 (hA.old (by omega))
        exact Ord.ex_value x rfl rfl (Rg.load da0 rfl (by simp [go_sem, c0])) rfl (hW.keep (by decide))
      | 13, ho, hi, hdep =>
        cases ho
        have da0 : ac.eval (.tmp 71) = .int .i64 c := hF.2.2.2 12 71 _ rfl (hdep ⟨12, .data⟩ (by simp) rfl)
        have hA := hW.at (k := 0) rfl hi (.inl rfl)
        exact Ord.ex_value x rfl rfl (Rg.bsl rfl (by simp [da0]) (bs1 hA.size _)) rfl (hW.next (k := 0) rfl (by decide) hi (.inl rfl) hA.build)
      | 14, ho, hi, hdep =>
        cases ho
        have da0 : ac.eval (.tmp 65) = .int .i64 (p + y) := hF.2.2.2 6 65 _ rfl (hdep ⟨6, .data⟩ (by simp) rfl)
        have da1 : ac.eval (.tmp 72) = .slice (some ⟨w1.heap.size, 0, none⟩) 1 1 := hF.2.2.2 13 72 _ rfl (hdep ⟨13, .data⟩ (by simp) rfl)
        have hA := hW.at (k := 1) rfl hi (.inr ⟨13, rfl, (hdep ⟨13, .data⟩ (by simp) rfl)⟩)
        refine Rg.ex_call x rfl rfl (Rg.enter (args := #[.int .i64 (p + y), .int .i64 0, .slice (some ⟨w1.heap.size, 0, none⟩) 1 1]) rfl rfl (by simp [da0, da1, ev_const]) EK.out) (Calls.mono (KE.out _ hA.new) ?_)
        rintro e w2 ⟨rfl, rfl⟩
        exact ⟨rfl, hW.next (k := 1) rfl (by decide) hi (.inr ⟨13, rfl, (hdep ⟨13, .data⟩ (by simp) rfl)⟩) (hA.call (Below.refl _ _))⟩
      | 15, ho, hi, hdep =>
        cases ho
        have da0 : ac.eval (.tmp 59) = .pointer (some ⟨b, 0, none⟩) := hF.2.2.2 0 59 _ rfl (hdep ⟨0, .data⟩ (by simp) rfl)
        exact Ord.ex_value x rfl rfl (Rg.nilc da0 rfl) rfl (hW.keep (by decide))
      | 16, ho, hi, hdep =>
        cases ho
        have da0 : ac.eval (.tmp 74) = .pointer (some ⟨b, 0, none⟩) := hF.2.2.2 15 74 _ rfl (hdep ⟨15, .data⟩ (by simp) rfl)
        exact Ord.ex_value x rfl rfl (Rg.fa da0 rfl (by simp [go_sem])) rfl (hW.keep (by decide))
      | 17, ho, hi, hdep =>
        cases ho
        have da0 : ac.eval (.tmp 75) = .pointer (some ⟨b, 0, none⟩) := hF.2.2.2 16 75 _ rfl (hdep ⟨16, .data⟩ (by simp) rfl)
        exact Ord.ex_value x rfl rfl (Rg.fa da0 rfl (by simp [go_sem])) rfl (hW.keep (by decide))
      | 18, ho, hi, hdep =>
        cases ho
        have da0 : ac.eval (.tmp 76) = .pointer (some ⟨b, 0, none⟩) := hF.2.2.2 17 76 _ rfl (hdep ⟨17, .data⟩ (by simp) rfl)
        exact Ord.ex_value x rfl rfl (Rg.fa da0 rfl (by simp [go_sem])) rfl (hW.keep (by decide))
      | 19, ho, hi, hdep =>
        cases ho
        have da0 : ac.eval (.tmp 77) = .pointer (some ⟨b, 2, none⟩) := hF.2.2.2 18 77 _ rfl (hdep ⟨18, .data⟩ (by simp) rfl)
        have da1 : ac.eval (.tmp 73) = .int .i64 (min (max (p + y) 0) c) := hF.2.2.2 14 73 _ rfl (hdep ⟨14, .data⟩ (by simp) rfl)
        have hA := hW.at (k := 2) rfl hi (.inr ⟨14, rfl, (hdep ⟨14, .data⟩ (by simp) rfl)⟩)
        obtain ⟨c0, c1, c2, c3, c4, c5⟩ := cells6 (hA.old (by omega))
        have fz := (hA.old (by omega)).frozen 2
        exact Rg.ex_skip x rfl rfl (Rg.sto da0 da1 rfl (by simp [go_sem, c2, fz])) rfl (hW.next (k := 2) rfl (by decide) hi (.inr ⟨14, rfl, (hdep ⟨14, .data⟩ (by simp) rfl)⟩) (hA.store 2 _ rfl))
    case refine_2 =>
      intro x w' hW
      have hv := hidden hW.last.out
      clear hW
      simp only [Ord.puts, Ord.prs]
      go_simp
      go_wp2
      go_end0
      exact ⟨rfl, hv.out⟩
    case refine_3 => exact Rg.StM.first (Bk3.first hw.out.2 hw.out.1 rfl)
  case refine_3 => exact Rg.StM.first ⟨fun _ => ⟨H.out, (Only.refl _ w).drew⟩, fun h => absurd h (by decide)⟩
set_option maxHeartbeats 1000000 in
theorem saveC (hp : 0 ≤ p ∧ p ≤ 1073741824) (hy : 0 ≤ y ∧ y ≤ 1073741824) (hc : 0 ≤ c ∧ c ≤ 1073741824) (h : Has w b #[.int .i64 c, .int .i64 s, .int .i64 p, .int .i64 m, .int .i64 k, .int .i64 y] 50) : Calls Try.prog 44 #[.pointer (some ⟨b, 0, none⟩), .bool false] w fun e w' => e = .returned (.tuple #[]) ∧ Has w' b #[.int .i64 c, .int .i64 s, .int .i64 (min (max (p + y) 0) c), .int .i64 m, .int .i64 k, .int .i64 y] 50 ∧ Only [b] w w' := by
  have H := hidden h
  obtain ⟨c0, c1, c2, c3, c4, c5⟩ := cells6 h
  have AD := hidden (add_ (x := p) (y := y) (by omega))
  have EK : Hid (∀ (args : Array Value) (w : World), (callFunc 40 args).run Try.prog w = .ok (.enter 40 args) w) := enters_of Try.func40 (by kernel_rfl) rfl
  clear h
  go_enter Try.func44, Try.ntmps44
  go_upto_region 1 with fail
  clear c0 c1 c2 c3 c4 c5
  refine Ord.wp_region_ex0 (X := Unit) (by kernel_rfl) 78 (fun x => [(some 11, .pointer (some ⟨b, 0, none⟩)), (some 12, .pointer (some ⟨b, 0, none⟩)), (some 13, .pointer (some ⟨b, 0, none⟩)), (some 14, .pointer (some ⟨b, 0, none⟩)), (some 15, .pointer (some ⟨b, 2, none⟩)), (some 16, .int .i64 p), (some 17, .pointer (some ⟨b, 0, none⟩)), (some 18, .pointer (some ⟨b, 0, none⟩)), (some 19, .pointer (some ⟨b, 5, none⟩)), (some 20, .int .i64 y), (some 21, .int .i64 (p + y)), (some 22, .pointer (some ⟨b, 0, none⟩)), (some 23, .pointer (some ⟨b, 0, none⟩)), (some 24, .pointer (some ⟨b, 0, none⟩)), (some 25, .pointer (some ⟨b, 2, none⟩)), (none, undef)]) [some 11, some 12, some 13, some 14, some 15, some 16, some 17, some 18, some 19, some 20, some 21, some 22, some 23, some 24, some 25, none] rfl (fun listed hsz hr => Ord.all_listedC (rank := [0, 1, 2, 3, 4, 5, 6, 7, 8, 9, 10, 11, 12, 13, 14, 15]) (by kernel_rfl) hsz hr) (by rfl) (fun _ => rfl) (by kernel_rfl) (Rg.StM [15] (fun kA _ w' => (kA = 0 → Has w' b #[.int .i64 c, .int .i64 s, .int .i64 p, .int .i64 m, .int .i64 k, .int .i64 y] 50 ∧ Only [b] w w') ∧ (1 ≤ kA → Has w' b #[.int .i64 c, .int .i64 s, .int .i64 (p + y), .int .i64 m, .int .i64 k, .int .i64 y] 50 ∧ Only [b] w w'))) (fun _ _ _ _ hL h => h.ext (n := 16) (by decide) hL) ?_ ?_ () ?_
  case refine_1 =>
    intro x Lq iq oq ac w' ho hi hcl hdep hF hW
    have f1 : ac.tmps.size = 78 := hF.1
    match iq, ho, hi, hdep with
    | 0, ho, hi, hdep =>
      cases ho
      have da0 : ac.eval (.tmp 0) = .pointer (some ⟨b, 0, none⟩) := hF.old 0 rfl
      exact Ord.ex_value x rfl rfl (Rg.mv da0 rfl) rfl (hW.keep (by decide))
    | 1, ho, hi, hdep =>
      cases ho
      have da0 : ac.eval (.tmp 11) = .pointer (some ⟨b, 0, none⟩) := hF.2.2.2 0 11 _ rfl (hdep ⟨0, .data⟩ (by simp) rfl)
      exact Ord.ex_value x rfl rfl (Rg.nilc da0 rfl) rfl (hW.keep (by decide))
    | 2, ho, hi, hdep =>
      cases ho
      have da0 : ac.eval (.tmp 12) = .pointer (some ⟨b, 0, none⟩) := hF.2.2.2 1 12 _ rfl (hdep ⟨1, .data⟩ (by simp) rfl)
      exact Ord.ex_value x rfl rfl (Rg.fa da0 rfl (by simp [go_sem])) rfl (hW.keep (by decide))
    | 3, ho, hi, hdep =>
      cases ho
      have da0 : ac.eval (.tmp 13) = .pointer (some ⟨b, 0, none⟩) := hF.2.2.2 2 13 _ rfl (hdep ⟨2, .data⟩ (by simp) rfl)
      exact Ord.ex_value x rfl rfl (Rg.fa da0 rfl (by simp [go_sem])) rfl (hW.keep (by decide))
    | 4, ho, hi, hdep =>
      cases ho
      have da0 : ac.eval (.tmp 14) = .pointer (some ⟨b, 0, none⟩) := hF.2.2.2 3 14 _ rfl (hdep ⟨3, .data⟩ (by simp) rfl)
      exact Ord.ex_value x rfl rfl (Rg.fa da0 rfl (by simp [go_sem])) rfl (hW.keep (by decide))
    | 5, ho, hi, hdep =>
      cases ho
      have da0 : ac.eval (.tmp 15) = .pointer (some ⟨b, 2, none⟩) := hF.2.2.2 4 15 _ rfl (hdep ⟨4, .data⟩ (by simp) rfl)
      obtain ⟨kq, hlo, hhi, hA⟩ := hW.range 0 0 (.inl rfl) (.inr ⟨15, rfl, (Rg.no_of (fun h => hcl 15 _ rfl (h) ⟨5, .phase⟩ (by simp) rfl) hi)⟩)
      obtain ⟨c0, c1, c2, c3, c4, c5⟩ := cells6 (hA.1 (by omega)).1
      exact Ord.ex_value x rfl rfl (Rg.load da0 rfl (by simp [go_sem, c2])) rfl (hW.keep (by decide))
    | 6, ho, hi, hdep =>
      cases ho
      have da0 : ac.eval (.tmp 0) = .pointer (some ⟨b, 0, none⟩) := hF.old 0 rfl
      exact Ord.ex_value x rfl rfl (Rg.mv da0 rfl) rfl (hW.keep (by decide))
    | 7, ho, hi, hdep =>
      cases ho
      have da0 : ac.eval (.tmp 17) = .pointer (some ⟨b, 0, none⟩) := hF.2.2.2 6 17 _ rfl (hdep ⟨6, .data⟩ (by simp) rfl)
      exact Ord.ex_value x rfl rfl (Rg.nilc da0 rfl) rfl (hW.keep (by decide))
    | 8, ho, hi, hdep =>
      cases ho
      have da0 : ac.eval (.tmp 18) = .pointer (some ⟨b, 0, none⟩) := hF.2.2.2 7 18 _ rfl (hdep ⟨7, .data⟩ (by simp) rfl)
      exact Ord.ex_value x rfl rfl (Rg.fa da0 rfl (by simp [go_sem])) rfl (hW.keep (by decide))
    | 9, ho, hi, hdep =>
      cases ho
      have da0 : ac.eval (.tmp 19) = .pointer (some ⟨b, 5, none⟩) := hF.2.2.2 8 19 _ rfl (hdep ⟨8, .data⟩ (by simp) rfl)
      obtain ⟨kq, hlo, hhi, hA⟩ := hW.range 0 0 (.inl rfl) (.inr ⟨15, rfl, (Rg.no_of (fun h => hcl 15 _ rfl (h) ⟨9, .phase⟩ (by simp) rfl) hi)⟩)
      obtain ⟨c0, c1, c2, c3, c4, c5⟩ := cells6 (hA.1 (by omega)).1
      exact Ord.ex_value x rfl rfl (Rg.load da0 rfl (by simp [go_sem, c5])) rfl (hW.keep (by decide))
    | 10, ho, hi, hdep =>
      cases ho
      have da0 : ac.eval (.tmp 16) = .int .i64 p := hF.2.2.2 5 16 _ rfl (hdep ⟨5, .data⟩ (by simp) rfl)
      have da1 : ac.eval (.tmp 20) = .int .i64 y := hF.2.2.2 9 20 _ rfl (hdep ⟨9, .data⟩ (by simp) rfl)
      exact Ord.ex_value x rfl rfl (Rg.bin da0 da1 rfl (AD.out _ _ _)) rfl (hW.keep (by decide))
    | 11, ho, hi, hdep =>
      cases ho
      have da0 : ac.eval (.tmp 11) = .pointer (some ⟨b, 0, none⟩) := hF.2.2.2 0 11 _ rfl (hdep ⟨0, .data⟩ (by simp) rfl)
      exact Ord.ex_value x rfl rfl (Rg.nilc da0 rfl) rfl (hW.keep (by decide))
    | 12, ho, hi, hdep =>
      cases ho
      have da0 : ac.eval (.tmp 22) = .pointer (some ⟨b, 0, none⟩) := hF.2.2.2 11 22 _ rfl (hdep ⟨11, .data⟩ (by simp) rfl)
      exact Ord.ex_value x rfl rfl (Rg.fa da0 rfl (by simp [go_sem])) rfl (hW.keep (by decide))
    | 13, ho, hi, hdep =>
      cases ho
      have da0 : ac.eval (.tmp 23) = .pointer (some ⟨b, 0, none⟩) := hF.2.2.2 12 23 _ rfl (hdep ⟨12, .data⟩ (by simp) rfl)
      exact Ord.ex_value x rfl rfl (Rg.fa da0 rfl (by simp [go_sem])) rfl (hW.keep (by decide))
    | 14, ho, hi, hdep =>
      cases ho
      have da0 : ac.eval (.tmp 24) = .pointer (some ⟨b, 0, none⟩) := hF.2.2.2 13 24 _ rfl (hdep ⟨13, .data⟩ (by simp) rfl)
      exact Ord.ex_value x rfl rfl (Rg.fa da0 rfl (by simp [go_sem])) rfl (hW.keep (by decide))
    | 15, ho, hi, hdep =>
      cases ho
      have da0 : ac.eval (.tmp 25) = .pointer (some ⟨b, 2, none⟩) := hF.2.2.2 14 25 _ rfl (hdep ⟨14, .data⟩ (by simp) rfl)
      have da1 : ac.eval (.tmp 21) = .int .i64 (p + y) := hF.2.2.2 10 21 _ rfl (hdep ⟨10, .data⟩ (by simp) rfl)
      have hA := hW.at (k := 0) rfl hi (.inl rfl)
      obtain ⟨c0, c1, c2, c3, c4, c5⟩ := cells6 (hA.1 (by omega)).1
      have fz := (hA.1 (by omega)).1.frozen 2
      exact Rg.ex_skip x rfl rfl (Rg.sto da0 da1 rfl (by simp [go_sem, c2, fz])) rfl (hW.next (k := 0) rfl (by decide) hi (.inl rfl) ⟨fun h => absurd h (by decide), fun _ => ⟨(hA.1 (by omega)).1.set 2 _, (hA.1 (by omega)).2.then (Only.setCell _ (by simp) _)⟩⟩)
  case refine_2 =>
    intro x w1 hW
    have hw := hidden (hW.last.2 (by decide))
    clear hW
    simp only [Ord.puts, Ord.prs]
    go_simp
    obtain ⟨c0, c1, c2, c3, c4, c5⟩ := cells6 hw.out.1
    have KE : Hid (∀ W, Has W w1.heap.size #[.int .i64 c] 3 → Calls Try.prog 40 #[.int .i64 (p + y), .int .i64 0, .slice (some ⟨w1.heap.size, 0, none⟩) 1 1] W fun e w' => e = .returned (.int .i64 (min (max (p + y) 0) c)) ∧ W = w') := fun W h => keep1 h _ _
    go_upto_region 5 with fail
    clear c0 c1 c2 c3 c4 c5
    refine Ord.wp_region_ex0 (X := Unit) (by kernel_rfl) 78 (fun x => [(some 59, .pointer (some ⟨b, 0, none⟩)), (some 60, .pointer (some ⟨b, 0, none⟩)), (some 61, .pointer (some ⟨b, 0, none⟩)), (some 62, .pointer (some ⟨b, 0, none⟩)), (some 63, .pointer (some ⟨b, 0, none⟩)), (some 64, .pointer (some ⟨b, 2, none⟩)), (some 65, .int .i64 (p + y)), (some 66, .pointer (some ⟨b, 0, none⟩)), (some 67, .pointer (some ⟨b, 0, none⟩)), (some 68, .pointer (some ⟨b, 0, none⟩)), (some 69, .pointer (some ⟨b, 0, none⟩)), (some 70, .pointer (some ⟨b, 0, none⟩)), (some 71, .int .i64 c), (some 72, .slice (some ⟨w1.heap.size, 0, none⟩) 1 1), (some 73, .int .i64 (min (max (p + y) 0) c)), (some 74, .pointer (some ⟨b, 0, none⟩)), (some 75, .pointer (some ⟨b, 0, none⟩)), (some 76, .pointer (some ⟨b, 0, none⟩)), (some 77, .pointer (some ⟨b, 2, none⟩)), (none, undef)]) [some 59, some 60, some 61, some 62, some 63, some 64, some 65, some 66, some 67, some 68, some 69, some 70, some 71, some 72, some 73, some 74, some 75, some 76, some 77, none] rfl (fun listed hsz hr => Ord.all_listedC (rank := [0, 1, 2, 3, 4, 5, 6, 7, 8, 9, 10, 11, 12, 13, 14, 15, 16, 17, 18, 19]) (by kernel_rfl) hsz hr) (by rfl) (fun _ => rfl) (by kernel_rfl) (Rg.StM [13, 14, 19] (fun kA _ w' => Bk3 w b w1.heap.size #[.int .i64 c, .int .i64 s, .int .i64 (p + y), .int .i64 m, .int .i64 k, .int .i64 y] #[.int .i64 c, .int .i64 s, .int .i64 (min (max (p + y) 0) c), .int .i64 m, .int .i64 k, .int .i64 y] #[.int .i64 c] kA w')) (fun _ _ _ _ hL h => h.ext (n := 20) (by decide) hL) ?_ ?_ () ?_
    case refine_1 =>
      intro x Lq iq oq ac w' ho hi hcl hdep hF hW
      have f1 : ac.tmps.size = 78 := hF.1
      match iq, ho, hi, hdep with
      | 0, ho, hi, hdep =>
        cases ho
        have da0 : ac.eval (.tmp 0) = .pointer (some ⟨b, 0, none⟩) := hF.old 0 rfl
        exact Ord.ex_value x rfl rfl (Rg.mv da0 rfl) rfl (hW.keep (by decide))
      | 1, ho, hi, hdep =>
        cases ho
        have da0 : ac.eval (.tmp 0) = .pointer (some ⟨b, 0, none⟩) := hF.old 0 rfl
        exact Ord.ex_value x rfl rfl (Rg.mv da0 rfl) rfl (hW.keep (by decide))
      | 2, ho, hi, hdep =>
        cases ho
        have da0 : ac.eval (.tmp 60) = .pointer (some ⟨b, 0, none⟩) := hF.2.2.2 1 60 _ rfl (hdep ⟨1, .data⟩ (by simp) rfl)
        exact Ord.ex_value x rfl rfl (Rg.nilc da0 rfl) rfl (hW.keep (by decide))
      | 3, ho, hi, hdep =>
        cases ho
        have da0 : ac.eval (.tmp 61) = .pointer (some ⟨b, 0, none⟩) := hF.2.2.2 2 61 _ rfl (hdep ⟨2, .data⟩ (by simp) rfl)
        exact Ord.ex_value x rfl rfl (Rg.fa da0 rfl (by simp [go_sem])) rfl (hW.keep (by decide))
      | 4, ho, hi, hdep =>
        cases ho
        have da0 : ac.eval (.tmp 62) = .pointer (some ⟨b, 0, none⟩) := hF.2.2.2 3 62 _ rfl (hdep ⟨3, .data⟩ (by simp) rfl)
        exact Ord.ex_value x rfl rfl (Rg.fa da0 rfl (by simp [go_sem])) rfl (hW.keep (by decide))
      | 5, ho, hi, hdep =>
        cases ho
        have da0 : ac.eval (.tmp 63) = .pointer (some ⟨b, 0, none⟩) := hF.2.2.2 4 63 _ rfl (hdep ⟨4, .data⟩ (by simp) rfl)
        exact Ord.ex_value x rfl rfl (Rg.fa da0 rfl (by simp [go_sem])) rfl (hW.keep (by decide))
      | 6, ho, hi, hdep =>
        cases ho
        have da0 : ac.eval (.tmp 64) = .pointer (some ⟨b, 2, none⟩) := hF.2.2.2 5 64 _ rfl (hdep ⟨5, .data⟩ (by simp) rfl)
        obtain ⟨kq, hlo, hhi, hA⟩ := hW.range 0 1 (.inl rfl) (.inr ⟨14, rfl, (Rg.no_of (fun h => hcl 14 _ rfl (h) ⟨6, .data⟩ (by simp) rfl) hi)⟩)
        obtain ⟨c0, c1, c2, c3, c4, c5⟩ := cells6 (hA.old (by omega))
        exact Ord.ex_value x rfl rfl (Rg.load da0 rfl (by simp [go_sem, c2])) rfl (hW.keep (by decide))
      | 7, ho, hi, hdep =>
        cases ho
        have da0 : ac.eval (.tmp 0) = .pointer (some ⟨b, 0, none⟩) := hF.old 0 rfl
        exact Ord.ex_value x rfl rfl (Rg.mv da0 rfl) rfl (hW.keep (by decide))
      | 8, ho, hi, hdep =>
        cases ho
        have da0 : ac.eval (.tmp 66) = .pointer (some ⟨b, 0, none⟩) := hF.2.2.2 7 66 _ rfl (hdep ⟨7, .data⟩ (by simp) rfl)
        exact Ord.ex_value x rfl rfl (Rg.nilc da0 rfl) rfl (hW.keep (by decide))
      | 9, ho, hi, hdep =>
        cases ho
        have da0 : ac.eval (.tmp 67) = .pointer (some ⟨b, 0, none⟩) := hF.2.2.2 8 67 _ rfl (hdep ⟨8, .data⟩ (by simp) rfl)
        exact Ord.ex_value x rfl rfl (Rg.fa da0 rfl (by simp [go_sem])) rfl (hW.keep (by decide))
      | 10, ho, hi, hdep =>
        cases ho
        have da0 : ac.eval (.tmp 68) = .pointer (some ⟨b, 0, none⟩) := hF.2.2.2 9 68 _ rfl (hdep ⟨9, .data⟩ (by simp) rfl)
        exact Ord.ex_value x rfl rfl (Rg.fa da0 rfl (by simp [go_sem])) rfl (hW.keep (by decide))
      | 11, ho, hi, hdep =>
        cases ho
        have da0 : ac.eval (.tmp 69) = .pointer (some ⟨b, 0, none⟩) := hF.2.2.2 10 69 _ rfl (hdep ⟨10, .data⟩ (by simp) rfl)
        exact Ord.ex_value x rfl rfl (Rg.fa da0 rfl (by simp [go_sem])) rfl (hW.keep (by decide))
      | 12, ho, hi, hdep =>
        cases ho
        have da0 : ac.eval (.tmp 70) = .pointer (some ⟨b, 0, none⟩) := hF.2.2.2 11 70 _ rfl (hdep ⟨11, .data⟩ (by simp) rfl)
        obtain ⟨kq, hlo, hhi, hA⟩ := hW.range 0 0 (.inl rfl) (.inr ⟨13, rfl, (Rg.no_of (fun h => hcl 13 _ rfl (h) ⟨12, .data⟩ (by simp) rfl) hi)⟩)
        obtain ⟨c0, c1, c2, c3, c4, c5⟩ := cells6 (hA.old (by omega))
        exact Ord.ex_value x rfl rfl (Rg.load da0 rfl (by simp [go_sem, c0])) rfl (hW.keep (by decide))
      | 13, ho, hi, hdep =>
        cases ho
        have da0 : ac.eval (.tmp 71) = .int .i64 c := hF.2.2.2 12 71 _ rfl (hdep ⟨12, .data⟩ (by simp) rfl)
        have hA := hW.at (k := 0) rfl hi (.inl rfl)
        exact Ord.ex_value x rfl rfl (Rg.bsl rfl (by simp [da0]) (bs1 hA.size _)) rfl (hW.next (k := 0) rfl (by decide) hi (.inl rfl) hA.build)
      | 14, ho, hi, hdep =>
        cases ho
        have da0 : ac.eval (.tmp 65) = .int .i64 (p + y) := hF.2.2.2 6 65 _ rfl (hdep ⟨6, .data⟩ (by simp) rfl)
        have da1 : ac.eval (.tmp 72) = .slice (some ⟨w1.heap.size, 0, none⟩) 1 1 := hF.2.2.2 13 72 _ rfl (hdep ⟨13, .data⟩ (by simp) rfl)
        have hA := hW.at (k := 1) rfl hi (.inr ⟨13, rfl, (hdep ⟨13, .data⟩ (by simp) rfl)⟩)
        refine Rg.ex_call x rfl rfl (Rg.enter (args := #[.int .i64 (p + y), .int .i64 0, .slice (some ⟨w1.heap.size, 0, none⟩) 1 1]) rfl rfl (by simp [da0, da1, ev_const]) EK.out) (Calls.mono (KE.out _ hA.new) ?_)
        rintro e w2 ⟨rfl, rfl⟩
        exact ⟨rfl, hW.next (k := 1) rfl (by decide) hi (.inr ⟨13, rfl, (hdep ⟨13, .data⟩ (by simp) rfl)⟩) (hA.call (Below.refl _ _))⟩
      | 15, ho, hi, hdep =>
        cases ho
        have da0 : ac.eval (.tmp 59) = .pointer (some ⟨b, 0, none⟩) := hF.2.2.2 0 59 _ rfl (hdep ⟨0, .data⟩ (by simp) rfl)
        exact Ord.ex_value x rfl rfl (Rg.nilc da0 rfl) rfl (hW.keep (by decide))
      | 16, ho, hi, hdep =>
        cases ho
        have da0 : ac.eval (.tmp 74) = .pointer (some ⟨b, 0, none⟩) := hF.2.2.2 15 74 _ rfl (hdep ⟨15, .data⟩ (by simp) rfl)
        exact Ord.ex_value x rfl rfl (Rg.fa da0 rfl (by simp [go_sem])) rfl (hW.keep (by decide))
      | 17, ho, hi, hdep =>
        cases ho
        have da0 : ac.eval (.tmp 75) = .pointer (some ⟨b, 0, none⟩) := hF.2.2.2 16 75 _ rfl (hdep ⟨16, .data⟩ (by simp) rfl)
        exact Ord.ex_value x rfl rfl (Rg.fa da0 rfl (by simp [go_sem])) rfl (hW.keep (by decide))
      | 18, ho, hi, hdep =>
        cases ho
        have da0 : ac.eval (.tmp 76) = .pointer (some ⟨b, 0, none⟩) := hF.2.2.2 17 76 _ rfl (hdep ⟨17, .data⟩ (by simp) rfl)
        exact Ord.ex_value x rfl rfl (Rg.fa da0 rfl (by simp [go_sem])) rfl (hW.keep (by decide))
      | 19, ho, hi, hdep =>
        cases ho
        have da0 : ac.eval (.tmp 77) = .pointer (some ⟨b, 2, none⟩) := hF.2.2.2 18 77 _ rfl (hdep ⟨18, .data⟩ (by simp) rfl)
        have da1 : ac.eval (.tmp 73) = .int .i64 (min (max (p + y) 0) c) := hF.2.2.2 14 73 _ rfl (hdep ⟨14, .data⟩ (by simp) rfl)
        have hA := hW.at (k := 2) rfl hi (.inr ⟨14, rfl, (hdep ⟨14, .data⟩ (by simp) rfl)⟩)
        obtain ⟨c0, c1, c2, c3, c4, c5⟩ := cells6 (hA.old (by omega))
        have fz := (hA.old (by omega)).frozen 2
        exact Rg.ex_skip x rfl rfl (Rg.sto da0 da1 rfl (by simp [go_sem, c2, fz])) rfl (hW.next (k := 2) rfl (by decide) hi (.inr ⟨14, rfl, (hdep ⟨14, .data⟩ (by simp) rfl)⟩) (hA.store 2 _ rfl))
    case refine_2 =>
      intro x w' hW
      have hv := hidden hW.last.out
      clear hW
      simp only [Ord.puts, Ord.prs]
      go_simp
      go_wp2
      go_end0
      exact ⟨rfl, hv.out⟩
    case refine_3 => exact Rg.StM.first (Bk3.first hw.out.2 hw.out.1 rfl)
  case refine_3 => exact Rg.StM.first ⟨fun _ => ⟨H.out, (Only.refl _ w).drew⟩, fun h => absurd h (by decide)⟩
set_option maxHeartbeats 1000000 in
theorem ackA (hm : 100 ≤ m ∧ m ≤ 1500) (hy : 0 ≤ y ∧ y ≤ 1073741824) (hc : 0 ≤ c ∧ c ≤ 1073741824) (hs : c ≤ s) (h : Has w b #[.int .i64 c, .int .i64 s, .int .i64 p, .int .i64 m, .int .i64 k, .int .i64 y] 50) : Calls Try.prog 28 #[.pointer (some ⟨b, 0, none⟩), .bool true] w fun e w' => e = .returned (.tuple #[]) ∧ Has w' b #[.int .i64 (min (max (c + min y m) m) k), .int .i64 s, .int .i64 p, .int .i64 m, .int .i64 k, .int .i64 y] 50 ∧ Only [b] w w' := by
  have H := hidden h
  obtain ⟨c0, c1, c2, c3, c4, c5⟩ := cells6 h
  have SL := hidden (slow c s p m k)
  rw [decide_eq_true hs] at SL
  have EW : Hid (∀ (args : Array Value) (w : World), (callFunc 31 args).run Try.prog w = .ok (.enter 31 args) w) := enters_of Try.func31 (by kernel_rfl) rfl
  have WD : Hid (∀ W, Has W b #[.int .i64 c, .int .i64 s, .int .i64 p, .int .i64 m, .int .i64 k, .int .i64 y] 50 → Calls Try.prog 31 #[.pointer (some ⟨b, 0, none⟩), .int .i64 (min y m)] W fun e w' => e = .returned (.tuple #[]) ∧ Has w' b #[.int .i64 (min (max (c + min y m) m) k), .int .i64 s, .int .i64 p, .int .i64 m, .int .i64 k, .int .i64 y] 50 ∧ Only [b] W w') := fun W h => widen (by omega) h
  clear h hs hm hy hc
  go_enter Try.func28, Try.ntmps28
  go_wp2_with fail
  refine Calls.mono (SL.out _) ?_
  rintro e w1 ⟨rfl, hB1⟩
  have H1 : Hid (Has w1 b #[.int .i64 c, .int .i64 s, .int .i64 p, .int .i64 m, .int .i64 k, .int .i64 y] 50 ∧ Only [b] w w1) := ⟨H.out.later hB1, Only.of_below hB1⟩
  clear hB1 H SL c0 c1 c2 c3 c4 c5
  go_upto_region 3 with fail
  refine Ord.wp_region_ex0 (X := Unit) (by kernel_rfl) 31 (fun x => [(some 16, .pointer (some ⟨b, 0, none⟩)), (some 17, .pointer (some ⟨b, 0, none⟩)), (some 18, .pointer (some ⟨b, 0, none⟩)), (some 19, .pointer (some ⟨b, 0, none⟩)), (some 20, .pointer (some ⟨b, 0, none⟩)), (some 21, .pointer (some ⟨b, 5, none⟩)), (some 22, .int .i64 y), (some 23, .pointer (some ⟨b, 0, none⟩)), (some 24, .pointer (some ⟨b, 0, none⟩)), (some 25, .pointer (some ⟨b, 0, none⟩)), (some 26, .pointer (some ⟨b, 0, none⟩)), (some 27, .pointer (some ⟨b, 3, none⟩)), (some 28, .int .i64 m), (some 29, .int .i64 (min y m)), (some 30, .tuple #[])]) [some 16, some 17, some 18, some 19, some 20, some 21, some 22, some 23, some 24, some 25, some 26, some 27, some 28, some 29, some 30] rfl (fun listed hsz hr => Ord.all_listedC (rank := [0, 1, 2, 3, 4, 5, 6, 7, 8, 9, 10, 11, 12, 13, 14]) (by kernel_rfl) hsz hr) (by rfl) (fun _ => rfl) (by kernel_rfl) (Rg.StM [14] (fun kA _ w' => (kA = 0 → Has w' b #[.int .i64 c, .int .i64 s, .int .i64 p, .int .i64 m, .int .i64 k, .int .i64 y] 50 ∧ Only [b] w w') ∧ (1 ≤ kA → Has w' b #[.int .i64 (min (max (c + min y m) m) k), .int .i64 s, .int .i64 p, .int .i64 m, .int .i64 k, .int .i64 y] 50 ∧ Only [b] w w'))) (fun _ _ _ _ hL h => h.ext (n := 15) (by decide) hL) ?_ ?_ () ?_
  case refine_1 =>
    intro x Lq iq oq ac w' ho hi hcl hdep hF hW
    have f1 : ac.tmps.size = 31 := hF.1
    match iq, ho, hi, hdep with
    | 0, ho, hi, hdep =>
      cases ho
      have da0 : ac.eval (.tmp 0) = .pointer (some ⟨b, 0, none⟩) := hF.old 0 rfl
      exact Ord.ex_value x rfl rfl (Rg.mv da0 rfl) rfl (hW.keep (by decide))
    | 1, ho, hi, hdep =>
      cases ho
      have da0 : ac.eval (.tmp 16) = .pointer (some ⟨b, 0, none⟩) := hF.2.2.2 0 16 _ rfl (hdep ⟨0, .data⟩ (by simp) rfl)
      exact Ord.ex_value x rfl rfl (Rg.nilc da0 rfl) rfl (hW.keep (by decide))
    | 2, ho, hi, hdep =>
      cases ho
      have da0 : ac.eval (.tmp 17) = .pointer (some ⟨b, 0, none⟩) := hF.2.2.2 1 17 _ rfl (hdep ⟨1, .data⟩ (by simp) rfl)
      exact Ord.ex_value x rfl rfl (Rg.fa da0 rfl (by simp [go_sem])) rfl (hW.keep (by decide))
    | 3, ho, hi, hdep =>
      cases ho
      have da0 : ac.eval (.tmp 0) = .pointer (some ⟨b, 0, none⟩) := hF.old 0 rfl
      exact Ord.ex_value x rfl rfl (Rg.mv da0 rfl) rfl (hW.keep (by decide))
    | 4, ho, hi, hdep =>
      cases ho
      have da0 : ac.eval (.tmp 19) = .pointer (some ⟨b, 0, none⟩) := hF.2.2.2 3 19 _ rfl (hdep ⟨3, .data⟩ (by simp) rfl)
      exact Ord.ex_value x rfl rfl (Rg.nilc da0 rfl) rfl (hW.keep (by decide))
    | 5, ho, hi, hdep =>
      cases ho
      have da0 : ac.eval (.tmp 20) = .pointer (some ⟨b, 0, none⟩) := hF.2.2.2 4 20 _ rfl (hdep ⟨4, .data⟩ (by simp) rfl)
      exact Ord.ex_value x rfl rfl (Rg.fa da0 rfl (by simp [go_sem])) rfl (hW.keep (by decide))
    | 6, ho, hi, hdep =>
      cases ho
      have da0 : ac.eval (.tmp 21) = .pointer (some ⟨b, 5, none⟩) := hF.2.2.2 5 21 _ rfl (hdep ⟨5, .data⟩ (by simp) rfl)
      obtain ⟨kq, hlo, hhi, hA⟩ := hW.range 0 0 (.inl rfl) (.inr ⟨14, rfl, (Rg.no_of (fun h => hcl 13 _ rfl (hcl 14 _ rfl (h) ⟨13, .data⟩ (by simp) rfl) ⟨6, .data⟩ (by simp) rfl) hi)⟩)
      obtain ⟨c0, c1, c2, c3, c4, c5⟩ := cells6 (hA.1 (by omega)).1
      exact Ord.ex_value x rfl rfl (Rg.load da0 rfl (by simp [go_sem, c5])) rfl (hW.keep (by decide))
    | 7, ho, hi, hdep =>
      cases ho
      have da0 : ac.eval (.tmp 0) = .pointer (some ⟨b, 0, none⟩) := hF.old 0 rfl
      exact Ord.ex_value x rfl rfl (Rg.mv da0 rfl) rfl (hW.keep (by decide))
    | 8, ho, hi, hdep =>
      cases ho
      have da0 : ac.eval (.tmp 23) = .pointer (some ⟨b, 0, none⟩) := hF.2.2.2 7 23 _ rfl (hdep ⟨7, .data⟩ (by simp) rfl)
      exact Ord.ex_value x rfl rfl (Rg.nilc da0 rfl) rfl (hW.keep (by decide))
    | 9, ho, hi, hdep =>
      cases ho
      have da0 : ac.eval (.tmp 24) = .pointer (some ⟨b, 0, none⟩) := hF.2.2.2 8 24 _ rfl (hdep ⟨8, .data⟩ (by simp) rfl)
      exact Ord.ex_value x rfl rfl (Rg.fa da0 rfl (by simp [go_sem])) rfl (hW.keep (by decide))
    | 10, ho, hi, hdep =>
      cases ho
      have da0 : ac.eval (.tmp 25) = .pointer (some ⟨b, 0, none⟩) := hF.2.2.2 9 25 _ rfl (hdep ⟨9, .data⟩ (by simp) rfl)
      exact Ord.ex_value x rfl rfl (Rg.fa da0 rfl (by simp [go_sem])) rfl (hW.keep (by decide))
    | 11, ho, hi, hdep =>
      cases ho
      have da0 : ac.eval (.tmp 26) = .pointer (some ⟨b, 0, none⟩) := hF.2.2.2 10 26 _ rfl (hdep ⟨10, .data⟩ (by simp) rfl)
      exact Ord.ex_value x rfl rfl (Rg.fa da0 rfl (by simp [go_sem])) rfl (hW.keep (by decide))
    | 12, ho, hi, hdep =>
      cases ho
      have da0 : ac.eval (.tmp 27) = .pointer (some ⟨b, 3, none⟩) := hF.2.2.2 11 27 _ rfl (hdep ⟨11, .data⟩ (by simp) rfl)
      obtain ⟨kq, hlo, hhi, hA⟩ := hW.range 0 0 (.inl rfl) (.inr ⟨14, rfl, (Rg.no_of (fun h => hcl 13 _ rfl (hcl 14 _ rfl (h) ⟨13, .data⟩ (by simp) rfl) ⟨12, .data⟩ (by simp) rfl) hi)⟩)
      obtain ⟨c0, c1, c2, c3, c4, c5⟩ := cells6 (hA.1 (by omega)).1
      exact Ord.ex_value x rfl rfl (Rg.load da0 rfl (by simp [go_sem, c3])) rfl (hW.keep (by decide))
    | 13, ho, hi, hdep =>
      cases ho
      have da0 : ac.eval (.tmp 22) = .int .i64 y := hF.2.2.2 6 22 _ rfl (hdep ⟨6, .data⟩ (by simp) rfl)
      have da1 : ac.eval (.tmp 28) = .int .i64 m := hF.2.2.2 12 28 _ rfl (hdep ⟨12, .data⟩ (by simp) rfl)
      exact Ord.ex_value x rfl rfl (min_ da0 da1 rfl (by simp [go_sem])) rfl (hW.keep (by decide))
    | 14, ho, hi, hdep =>
      cases ho
      have da0 : ac.eval (.tmp 18) = .pointer (some ⟨b, 0, none⟩) := hF.2.2.2 2 18 _ rfl (hdep ⟨2, .data⟩ (by simp) rfl)
      have da1 : ac.eval (.tmp 29) = .int .i64 (min y m) := hF.2.2.2 13 29 _ rfl (hdep ⟨13, .data⟩ (by simp) rfl)
      have hA := hW.at (k := 0) rfl hi (.inl rfl)
      refine Rg.ex_call x rfl rfl (Rg.enter (args := #[.pointer (some ⟨b, 0, none⟩), .int .i64 (min y m)]) rfl rfl (by simp [da0, da1]) EW.out) (Calls.mono (WD.out _ (hA.1 (by omega)).1) ?_)
      rintro e w2 ⟨rfl, hH, hO⟩
      exact ⟨rfl, hW.next (k := 0) rfl (by decide) hi (.inl rfl) ⟨fun h => absurd h (by decide), fun _ => ⟨hH, (hA.1 (by omega)).2.then hO⟩⟩⟩
  case refine_2 =>
    intro x w' hW
    have hw := hidden (hW.last.2 (by decide))
    clear hW
    simp only [Ord.puts, Ord.prs]
    go_simp
    go_wp2
    go_end0
    exact ⟨rfl, hw.out⟩
  case refine_3 => exact Rg.StM.first ⟨fun _ => ⟨H1.out.1, H1.out.2.drew⟩, fun h => absurd h (by decide)⟩
theorem ackB (hs : c ≤ s) (h : Has w b #[.int .i64 c, .int .i64 s, .int .i64 p, .int .i64 m, .int .i64 k, .int .i64 y] 50) : Calls Try.prog 28 #[.pointer (some ⟨b, 0, none⟩), .bool false] w fun e w' => e = .returned (.tuple #[]) ∧ Has w' b #[.int .i64 c, .int .i64 s, .int .i64 p, .int .i64 m, .int .i64 k, .int .i64 y] 50 ∧ Only [b] w w' := by
  have H := hidden h
  obtain ⟨c0, c1, c2, c3, c4, c5⟩ := cells6 h
  have SL := hidden (slow c s p m k)
  rw [decide_eq_true hs] at SL
  clear h hs
  go_enter Try.func28, Try.ntmps28
  go_wp2_with fail
  refine Calls.mono (SL.out _) ?_
  rintro e w1 ⟨rfl, hB1⟩
  have H1 : Hid (Has w1 b #[.int .i64 c, .int .i64 s, .int .i64 p, .int .i64 m, .int .i64 k, .int .i64 y] 50 ∧ Only [b] w w1) := ⟨H.out.later hB1, Only.of_below hB1⟩
  clear hB1 H SL c0 c1 c2 c3 c4 c5
  go_wp2
  go_end0
  exact ⟨rfl, H1.out⟩
theorem ackC (f : Bool) {c' p' : Int} (hs : ¬ c ≤ s) (SV : ∀ W, Has W b #[.int .i64 c, .int .i64 s, .int .i64 p, .int .i64 m, .int .i64 k, .int .i64 y] 50 → Calls Try.prog 44 #[.pointer (some ⟨b, 0, none⟩), .bool f] W fun e w' => e = .returned (.tuple #[]) ∧ Has w' b #[.int .i64 c', .int .i64 s, .int .i64 p', .int .i64 m, .int .i64 k, .int .i64 y] 50 ∧ Only [b] W w') (h : Has w b #[.int .i64 c, .int .i64 s, .int .i64 p, .int .i64 m, .int .i64 k, .int .i64 y] 50) : Calls Try.prog 28 #[.pointer (some ⟨b, 0, none⟩), .bool f] w fun e w' => e = .returned (.tuple #[]) ∧ Has w' b #[.int .i64 c', .int .i64 s, .int .i64 p', .int .i64 m, .int .i64 k, .int .i64 y] 50 ∧ Only [b] w w' := by
  have SV := hidden SV
  have H := hidden h
  obtain ⟨c0, c1, c2, c3, c4, c5⟩ := cells6 h
  have SL := hidden (slow c s p m k)
  rw [decide_eq_false hs] at SL
  clear h hs
  go_enter Try.func28, Try.ntmps28
  go_wp2_with fail
  refine Calls.mono (SL.out _) ?_
  rintro e w1 ⟨rfl, hB1⟩
  have H1 : Hid (Has w1 b #[.int .i64 c, .int .i64 s, .int .i64 p, .int .i64 m, .int .i64 k, .int .i64 y] 50 ∧ Only [b] w w1) := ⟨H.out.later hB1, Only.of_below hB1⟩
  clear hB1 H SL c0 c1 c2 c3 c4 c5
  go_wp2_with fail
  refine Calls.mono (SV.out _ H1.out.1) ?_
  rintro e w2 ⟨rfl, hH, hO⟩
  have H2 := hidden (And.intro hH (H1.out.2.then hO))
  clear hH hO H1 SV
  go_wp2
  go_end0
  exact ⟨rfl, H2.out⟩
/-- more by the bytes -/
theorem growF (hm : 100 ≤ m ∧ m ≤ 1500) (hy : 0 ≤ y ∧ y ≤ 1073741824) (hc : 0 ≤ c ∧ c ≤ 1073741824) (h : Has w b #[.int .i64 c, .int .i64 s, .int .i64 p, .int .i64 m, .int .i64 k, .int .i64 y] 50) : Calls Try.prog 30 #[.pointer (some ⟨b, 0, none⟩)] w fun e w' => e = .returned (.tuple #[]) ∧ Has w' b #[.int .i64 (min (max (c + y) m) k), .int .i64 s, .int .i64 p, .int .i64 m, .int .i64 k, .int .i64 y] 50 ∧ Only [b] w w' := by
  have H := hidden h
  have EW : Hid (∀ (args : Array Value) (w : World), (callFunc 31 args).run Try.prog w = .ok (.enter 31 args) w) := enters_of Try.func31 (by kernel_rfl) rfl
  have WD : Hid (∀ W, Has W b #[.int .i64 c, .int .i64 s, .int .i64 p, .int .i64 m, .int .i64 k, .int .i64 y] 50 → Calls Try.prog 31 #[.pointer (some ⟨b, 0, none⟩), .int .i64 y] W fun e w' => e = .returned (.tuple #[]) ∧ Has w' b #[.int .i64 (min (max (c + y) m) k), .int .i64 s, .int .i64 p, .int .i64 m, .int .i64 k, .int .i64 y] 50 ∧ Only [b] W w') := fun W h => widen (by omega) h
  clear h hm hy hc
  go_enter Try.func30, Try.ntmps30
  go_upto_region 0 with fail
  refine Ord.wp_region_ex0 (X := Unit) (by kernel_rfl) 10 (fun x => [(some 2, .pointer (some ⟨b, 0, none⟩)), (some 3, .pointer (some ⟨b, 0, none⟩)), (some 4, .pointer (some ⟨b, 0, none⟩)), (some 5, .pointer (some ⟨b, 0, none⟩)), (some 6, .pointer (some ⟨b, 0, none⟩)), (some 7, .pointer (some ⟨b, 5, none⟩)), (some 8, .int .i64 y), (some 9, .tuple #[])]) [some 2, some 3, some 4, some 5, some 6, some 7, some 8, some 9] rfl (fun listed hsz hr => Ord.all_listedC (rank := [0, 1, 2, 3, 4, 5, 6, 7]) (by kernel_rfl) hsz hr) (by rfl) (fun _ => rfl) (by kernel_rfl) (Rg.StM [7] (fun kA _ w' => (kA = 0 → Has w' b #[.int .i64 c, .int .i64 s, .int .i64 p, .int .i64 m, .int .i64 k, .int .i64 y] 50 ∧ Only [b] w w') ∧ (1 ≤ kA → Has w' b #[.int .i64 (min (max (c + y) m) k), .int .i64 s, .int .i64 p, .int .i64 m, .int .i64 k, .int .i64 y] 50 ∧ Only [b] w w'))) (fun _ _ _ _ hL h => h.ext (n := 8) (by decide) hL) ?_ ?_ () ?_
  case refine_1 =>
    intro x Lq iq oq ac w' ho hi hcl hdep hF hW
    have f1 : ac.tmps.size = 10 := hF.1
    match iq, ho, hi, hdep with
    | 0, ho, hi, hdep =>
      cases ho
      have da0 : ac.eval (.tmp 0) = .pointer (some ⟨b, 0, none⟩) := hF.old 0 rfl
      exact Ord.ex_value x rfl rfl (Rg.mv da0 rfl) rfl (hW.keep (by decide))
    | 1, ho, hi, hdep =>
      cases ho
      have da0 : ac.eval (.tmp 2) = .pointer (some ⟨b, 0, none⟩) := hF.2.2.2 0 2 _ rfl (hdep ⟨0, .data⟩ (by simp) rfl)
      exact Ord.ex_value x rfl rfl (Rg.nilc da0 rfl) rfl (hW.keep (by decide))
    | 2, ho, hi, hdep =>
      cases ho
      have da0 : ac.eval (.tmp 3) = .pointer (some ⟨b, 0, none⟩) := hF.2.2.2 1 3 _ rfl (hdep ⟨1, .data⟩ (by simp) rfl)
      exact Ord.ex_value x rfl rfl (Rg.fa da0 rfl (by simp [go_sem])) rfl (hW.keep (by decide))
    | 3, ho, hi, hdep =>
      cases ho
      have da0 : ac.eval (.tmp 0) = .pointer (some ⟨b, 0, none⟩) := hF.old 0 rfl
      exact Ord.ex_value x rfl rfl (Rg.mv da0 rfl) rfl (hW.keep (by decide))
    | 4, ho, hi, hdep =>
      cases ho
      have da0 : ac.eval (.tmp 5) = .pointer (some ⟨b, 0, none⟩) := hF.2.2.2 3 5 _ rfl (hdep ⟨3, .data⟩ (by simp) rfl)
      exact Ord.ex_value x rfl rfl (Rg.nilc da0 rfl) rfl (hW.keep (by decide))
    | 5, ho, hi, hdep =>
      cases ho
      have da0 : ac.eval (.tmp 6) = .pointer (some ⟨b, 0, none⟩) := hF.2.2.2 4 6 _ rfl (hdep ⟨4, .data⟩ (by simp) rfl)
      exact Ord.ex_value x rfl rfl (Rg.fa da0 rfl (by simp [go_sem])) rfl (hW.keep (by decide))
    | 6, ho, hi, hdep =>
      cases ho
      have da0 : ac.eval (.tmp 7) = .pointer (some ⟨b, 5, none⟩) := hF.2.2.2 5 7 _ rfl (hdep ⟨5, .data⟩ (by simp) rfl)
      obtain ⟨kq, hlo, hhi, hA⟩ := hW.range 0 0 (.inl rfl) (.inr ⟨7, rfl, (Rg.no_of (fun h => hcl 7 _ rfl (h) ⟨6, .data⟩ (by simp) rfl) hi)⟩)
      obtain ⟨c0, c1, c2, c3, c4, c5⟩ := cells6 (hA.1 (by omega)).1
      exact Ord.ex_value x rfl rfl (Rg.load da0 rfl (by simp [go_sem, c5])) rfl (hW.keep (by decide))
    | 7, ho, hi, hdep =>
      cases ho
      have da0 : ac.eval (.tmp 4) = .pointer (some ⟨b, 0, none⟩) := hF.2.2.2 2 4 _ rfl (hdep ⟨2, .data⟩ (by simp) rfl)
      have da1 : ac.eval (.tmp 8) = .int .i64 y := hF.2.2.2 6 8 _ rfl (hdep ⟨6, .data⟩ (by simp) rfl)
      have hA := hW.at (k := 0) rfl hi (.inl rfl)
      refine Rg.ex_call x rfl rfl (Rg.enter (args := #[.pointer (some ⟨b, 0, none⟩), .int .i64 y]) rfl rfl (by simp [da0, da1]) EW.out) (Calls.mono (WD.out _ (hA.1 (by omega)).1) ?_)
      rintro e w2 ⟨rfl, hH, hO⟩
      exact ⟨rfl, hW.next (k := 0) rfl (by decide) hi (.inl rfl) ⟨fun h => absurd h (by decide), fun _ => ⟨hH, (hA.1 (by omega)).2.then hO⟩⟩⟩
  case refine_2 =>
    intro x w' hW
    have hw := hidden (hW.last.2 (by decide))
    clear hW
    simp only [Ord.puts, Ord.prs]
    go_simp
    go_wp2
    go_end0
    exact ⟨rfl, hw.out⟩
  case refine_3 => exact Rg.StM.first ⟨fun _ => ⟨H.out, (Only.refl _ w).drew⟩, fun h => absurd h (by decide)⟩
theorem timeF (hm : 100 ≤ m ∧ m ≤ 1500) (hc : 0 ≤ c ∧ c ≤ 1073741824) (h : Has w b #[.int .i64 c, .int .i64 s, .int .i64 p, .int .i64 m, .int .i64 k, .int .i64 y] 50) : Calls Try.prog 35 #[.pointer (some ⟨b, 0, none⟩)] w fun e w' => e = .returned (.tuple #[]) ∧ Has w' b #[.int .i64 (min m k), .int .i64 (max (c / 2) (4 * m)), .int .i64 0, .int .i64 m, .int .i64 k, .int .i64 y] 50 ∧ Only [b] w w' := by
  have H := hidden h
  have EW : Hid (∀ (args : Array Value) (w : World), (callFunc 33 args).run Try.prog w = .ok (.enter 33 args) w) := enters_of Try.func33 (by kernel_rfl) rfl
  have WD : Hid (∀ W, Has W b #[.int .i64 c, .int .i64 s, .int .i64 p, .int .i64 m, .int .i64 k, .int .i64 y] 50 → Calls Try.prog 33 #[.pointer (some ⟨b, 0, none⟩), .int .i64 m] W fun e w' => e = .returned (.tuple #[]) ∧ Has w' b #[.int .i64 (min m k), .int .i64 (max (c / 2) (4 * m)), .int .i64 0, .int .i64 m, .int .i64 k, .int .i64 y] 50 ∧ Only [b] W w') := fun W h => by
    have := shrink (n := m) hm hc h
    rw [show max m m = m by omega] at this
    exact this
  clear h hm hc
  go_enter Try.func35, Try.ntmps35
  go_upto_region 0 with fail
  refine Ord.wp_region_ex0 (X := Unit) (by kernel_rfl) 12 (fun x => [(some 2, .pointer (some ⟨b, 0, none⟩)), (some 3, .pointer (some ⟨b, 0, none⟩)), (some 4, .pointer (some ⟨b, 0, none⟩)), (some 5, .pointer (some ⟨b, 0, none⟩)), (some 6, .pointer (some ⟨b, 0, none⟩)), (some 7, .pointer (some ⟨b, 0, none⟩)), (some 8, .pointer (some ⟨b, 0, none⟩)), (some 9, .pointer (some ⟨b, 3, none⟩)), (some 10, .int .i64 m), (some 11, .tuple #[])]) [some 2, some 3, some 4, some 5, some 6, some 7, some 8, some 9, some 10, some 11] rfl (fun listed hsz hr => Ord.all_listedC (rank := [0, 1, 2, 3, 4, 5, 6, 7, 8, 9]) (by kernel_rfl) hsz hr) (by rfl) (fun _ => rfl) (by kernel_rfl) (Rg.StM [9] (fun kA _ w' => (kA = 0 → Has w' b #[.int .i64 c, .int .i64 s, .int .i64 p, .int .i64 m, .int .i64 k, .int .i64 y] 50 ∧ Only [b] w w') ∧ (1 ≤ kA → Has w' b #[.int .i64 (min m k), .int .i64 (max (c / 2) (4 * m)), .int .i64 0, .int .i64 m, .int .i64 k, .int .i64 y] 50 ∧ Only [b] w w'))) (fun _ _ _ _ hL h => h.ext (n := 10) (by decide) hL) ?_ ?_ () ?_
  case refine_1 =>
    intro x Lq iq oq ac w' ho hi hcl hdep hF hW
    have f1 : ac.tmps.size = 12 := hF.1
    match iq, ho, hi, hdep with
    | 0, ho, hi, hdep =>
      cases ho
      have da0 : ac.eval (.tmp 0) = .pointer (some ⟨b, 0, none⟩) := hF.old 0 rfl
      exact Ord.ex_value x rfl rfl (Rg.mv da0 rfl) rfl (hW.keep (by decide))
    | 1, ho, hi, hdep =>
      cases ho
      have da0 : ac.eval (.tmp 2) = .pointer (some ⟨b, 0, none⟩) := hF.2.2.2 0 2 _ rfl (hdep ⟨0, .data⟩ (by simp) rfl)
      exact Ord.ex_value x rfl rfl (Rg.nilc da0 rfl) rfl (hW.keep (by decide))
    | 2, ho, hi, hdep =>
      cases ho
      have da0 : ac.eval (.tmp 3) = .pointer (some ⟨b, 0, none⟩) := hF.2.2.2 1 3 _ rfl (hdep ⟨1, .data⟩ (by simp) rfl)
      exact Ord.ex_value x rfl rfl (Rg.fa da0 rfl (by simp [go_sem])) rfl (hW.keep (by decide))
    | 3, ho, hi, hdep =>
      cases ho
      have da0 : ac.eval (.tmp 0) = .pointer (some ⟨b, 0, none⟩) := hF.old 0 rfl
      exact Ord.ex_value x rfl rfl (Rg.mv da0 rfl) rfl (hW.keep (by decide))
    | 4, ho, hi, hdep =>
      cases ho
      have da0 : ac.eval (.tmp 5) = .pointer (some ⟨b, 0, none⟩) := hF.2.2.2 3 5 _ rfl (hdep ⟨3, .data⟩ (by simp) rfl)
      exact Ord.ex_value x rfl rfl (Rg.nilc da0 rfl) rfl (hW.keep (by decide))
    | 5, ho, hi, hdep =>
      cases ho
      have da0 : ac.eval (.tmp 6) = .pointer (some ⟨b, 0, none⟩) := hF.2.2.2 4 6 _ rfl (hdep ⟨4, .data⟩ (by simp) rfl)
      exact Ord.ex_value x rfl rfl (Rg.fa da0 rfl (by simp [go_sem])) rfl (hW.keep (by decide))
    | 6, ho, hi, hdep =>
      cases ho
      have da0 : ac.eval (.tmp 7) = .pointer (some ⟨b, 0, none⟩) := hF.2.2.2 5 7 _ rfl (hdep ⟨5, .data⟩ (by simp) rfl)
      exact Ord.ex_value x rfl rfl (Rg.fa da0 rfl (by simp [go_sem])) rfl (hW.keep (by decide))
    | 7, ho, hi, hdep =>
      cases ho
      have da0 : ac.eval (.tmp 8) = .pointer (some ⟨b, 0, none⟩) := hF.2.2.2 6 8 _ rfl (hdep ⟨6, .data⟩ (by simp) rfl)
      exact Ord.ex_value x rfl rfl (Rg.fa da0 rfl (by simp [go_sem])) rfl (hW.keep (by decide))
    | 8, ho, hi, hdep =>
      cases ho
      have da0 : ac.eval (.tmp 9) = .pointer (some ⟨b, 3, none⟩) := hF.2.2.2 7 9 _ rfl (hdep ⟨7, .data⟩ (by simp) rfl)
      obtain ⟨kq, hlo, hhi, hA⟩ := hW.range 0 0 (.inl rfl) (.inr ⟨9, rfl, (Rg.no_of (fun h => hcl 9 _ rfl (h) ⟨8, .data⟩ (by simp) rfl) hi)⟩)
      obtain ⟨c0, c1, c2, c3, c4, c5⟩ := cells6 (hA.1 (by omega)).1
      exact Ord.ex_value x rfl rfl (Rg.load da0 rfl (by simp [go_sem, c3])) rfl (hW.keep (by decide))
    | 9, ho, hi, hdep =>
      cases ho
      have da0 : ac.eval (.tmp 4) = .pointer (some ⟨b, 0, none⟩) := hF.2.2.2 2 4 _ rfl (hdep ⟨2, .data⟩ (by simp) rfl)
      have da1 : ac.eval (.tmp 10) = .int .i64 m := hF.2.2.2 8 10 _ rfl (hdep ⟨8, .data⟩ (by simp) rfl)
      have hA := hW.at (k := 0) rfl hi (.inl rfl)
      refine Rg.ex_call x rfl rfl (Rg.enter (args := #[.pointer (some ⟨b, 0, none⟩), .int .i64 m]) rfl rfl (by simp [da0, da1]) EW.out) (Calls.mono (WD.out _ (hA.1 (by omega)).1) ?_)
      rintro e w2 ⟨rfl, hH, hO⟩
      exact ⟨rfl, hW.next (k := 0) rfl (by decide) hi (.inl rfl) ⟨fun h => absurd h (by decide), fun _ => ⟨hH, (hA.1 (by omega)).2.then hO⟩⟩⟩
  case refine_2 =>
    intro x w' hW
    have hw := hidden (hW.last.2 (by decide))
    clear hW
    simp only [Ord.puts, Ord.prs]
    go_simp
    go_wp2
    go_end0
    exact ⟨rfl, hw.out⟩
  case refine_3 => exact Rg.StM.first ⟨fun _ => ⟨H.out, (Only.refl _ w).drew⟩, fun h => absurd h (by decide)⟩
theorem fastF (hm : 100 ≤ m ∧ m ≤ 1500) (hc : 0 ≤ c ∧ c ≤ 1073741824) (h : Has w b #[.int .i64 c, .int .i64 s, .int .i64 p, .int .i64 m, .int .i64 k, .int .i64 y] 50) : Calls Try.prog 32 #[.pointer (some ⟨b, 0, none⟩)] w fun e w' => e = .returned (.tuple #[]) ∧ Has w' b #[.int .i64 (min (max (c / 2) (4 * m)) k), .int .i64 (max (c / 2) (4 * m)), .int .i64 0, .int .i64 m, .int .i64 k, .int .i64 y] 50 ∧ Only [b] w w' := by
  have H := hidden h
  have HF := hidden (fun W => half0 (c := c) (s := s) (p := p) (m := m) (k := k) hm hc W)
  have EW : Hid (∀ (args : Array Value) (w : World), (callFunc 33 args).run Try.prog w = .ok (.enter 33 args) w) := enters_of Try.func33 (by kernel_rfl) rfl
  have EH : Hid (∀ (args : Array Value) (w : World), (callFunc 34 args).run Try.prog w = .ok (.enter 34 args) w) := enters_of Try.func34 (by kernel_rfl) rfl
  have WD : Hid (∀ W, Has W b #[.int .i64 c, .int .i64 s, .int .i64 p, .int .i64 m, .int .i64 k, .int .i64 y] 50 → Calls Try.prog 33 #[.pointer (some ⟨b, 0, none⟩), .int .i64 (max (c / 2) (4 * m))] W fun e w' => e = .returned (.tuple #[]) ∧ Has w' b #[.int .i64 (min (max (c / 2) (4 * m)) k), .int .i64 (max (c / 2) (4 * m)), .int .i64 0, .int .i64 m, .int .i64 k, .int .i64 y] 50 ∧ Only [b] W w') := fun W h => by
    have := shrink (n := max (c / 2) (4 * m)) hm hc h
    rw [show max (max (c / 2) (4 * m)) m = max (c / 2) (4 * m) by omega] at this
    exact this
  clear h hm hc
  go_enter Try.func32, Try.ntmps32
  go_upto_region 0 with fail
  refine Ord.wp_region_ex0 (X := Unit) (by kernel_rfl) 11 (fun x => [(some 2, .pointer (some ⟨b, 0, none⟩)), (some 3, .pointer (some ⟨b, 0, none⟩)), (some 4, .pointer (some ⟨b, 0, none⟩)), (some 5, .pointer (some ⟨b, 0, none⟩)), (some 6, .pointer (some ⟨b, 0, none⟩)), (some 7, .pointer (some ⟨b, 0, none⟩)), (some 8, .agg #[.int .i64 c, .int .i64 s, .int .i64 p, .int .i64 m, .int .i64 k]), (some 9, .int .i64 (max (c / 2) (4 * m))), (some 10, .tuple #[])]) [some 2, some 3, some 4, some 5, some 6, some 7, some 8, some 9, some 10] rfl (fun listed hsz hr => Ord.all_listedC (rank := [0, 1, 2, 3, 4, 5, 6, 7, 8]) (by kernel_rfl) hsz hr) (by rfl) (fun _ => rfl) (by kernel_rfl) (Rg.StM [7, 8] (fun kA _ w' => (kA ≤ 1 → Has w' b #[.int .i64 c, .int .i64 s, .int .i64 p, .int .i64 m, .int .i64 k, .int .i64 y] 50 ∧ Only [b] w w') ∧ (2 ≤ kA → Has w' b #[.int .i64 (min (max (c / 2) (4 * m)) k), .int .i64 (max (c / 2) (4 * m)), .int .i64 0, .int .i64 m, .int .i64 k, .int .i64 y] 50 ∧ Only [b] w w'))) (fun _ _ _ _ hL h => h.ext (n := 9) (by decide) hL) ?_ ?_ () ?_
  case refine_1 =>
    intro x Lq iq oq ac w' ho hi hcl hdep hF hW
    have f1 : ac.tmps.size = 11 := hF.1
    match iq, ho, hi, hdep with
    | 0, ho, hi, hdep =>
      cases ho
      have da0 : ac.eval (.tmp 0) = .pointer (some ⟨b, 0, none⟩) := hF.old 0 rfl
      exact Ord.ex_value x rfl rfl (Rg.mv da0 rfl) rfl (hW.keep (by decide))
    | 1, ho, hi, hdep =>
      cases ho
      have da0 : ac.eval (.tmp 2) = .pointer (some ⟨b, 0, none⟩) := hF.2.2.2 0 2 _ rfl (hdep ⟨0, .data⟩ (by simp) rfl)
      exact Ord.ex_value x rfl rfl (Rg.nilc da0 rfl) rfl (hW.keep (by decide))
    | 2, ho, hi, hdep =>
      cases ho
      have da0 : ac.eval (.tmp 3) = .pointer (some ⟨b, 0, none⟩) := hF.2.2.2 1 3 _ rfl (hdep ⟨1, .data⟩ (by simp) rfl)
      exact Ord.ex_value x rfl rfl (Rg.fa da0 rfl (by simp [go_sem])) rfl (hW.keep (by decide))
    | 3, ho, hi, hdep =>
      cases ho
      have da0 : ac.eval (.tmp 0) = .pointer (some ⟨b, 0, none⟩) := hF.old 0 rfl
      exact Ord.ex_value x rfl rfl (Rg.mv da0 rfl) rfl (hW.keep (by decide))
    | 4, ho, hi, hdep =>
      cases ho
      have da0 : ac.eval (.tmp 5) = .pointer (some ⟨b, 0, none⟩) := hF.2.2.2 3 5 _ rfl (hdep ⟨3, .data⟩ (by simp) rfl)
      exact Ord.ex_value x rfl rfl (Rg.nilc da0 rfl) rfl (hW.keep (by decide))
    | 5, ho, hi, hdep =>
      cases ho
      have da0 : ac.eval (.tmp 6) = .pointer (some ⟨b, 0, none⟩) := hF.2.2.2 4 6 _ rfl (hdep ⟨4, .data⟩ (by simp) rfl)
      exact Ord.ex_value x rfl rfl (Rg.fa da0 rfl (by simp [go_sem])) rfl (hW.keep (by decide))
    | 6, ho, hi, hdep =>
      cases ho
      have da0 : ac.eval (.tmp 7) = .pointer (some ⟨b, 0, none⟩) := hF.2.2.2 5 7 _ rfl (hdep ⟨5, .data⟩ (by simp) rfl)
      obtain ⟨kq, hlo, hhi, hA⟩ := hW.range 0 0 (.inl rfl) (.inr ⟨7, rfl, (Rg.no_of (fun h => hcl 7 _ rfl (h) ⟨6, .data⟩ (by simp) rfl) hi)⟩)
      obtain ⟨c0, c1, c2, c3, c4, c5⟩ := cells6 (hA.1 (by omega)).1
      exact Ord.ex_value x rfl rfl (Rg.load da0 rfl (by simp [go_sem, c0, c1, c2, c3, c4])) rfl (hW.keep (by decide))
    | 7, ho, hi, hdep =>
      cases ho
      have da0 : ac.eval (.tmp 8) = .agg #[.int .i64 c, .int .i64 s, .int .i64 p, .int .i64 m, .int .i64 k] := hF.2.2.2 6 8 _ rfl (hdep ⟨6, .data⟩ (by simp) rfl)
      have hA := hW.at (k := 0) rfl hi (.inl rfl)
      refine Rg.ex_call x rfl rfl (Rg.enter (args := #[.agg #[.int .i64 c, .int .i64 s, .int .i64 p, .int .i64 m, .int .i64 k], .slice none 0 0]) rfl rfl (by simp [da0, ev_const]) EH.out) (Calls.mono (HF.out _) ?_)
      rintro e w2 ⟨rfl, hB⟩
      exact ⟨rfl, hW.next (k := 0) rfl (by decide) hi (.inl rfl) ⟨fun _ => ⟨(hA.1 (by omega)).1.later hB, (hA.1 (by omega)).2.then (Only.of_below hB)⟩, fun h => absurd h (by decide)⟩⟩
    | 8, ho, hi, hdep =>
      cases ho
      have da0 : ac.eval (.tmp 4) = .pointer (some ⟨b, 0, none⟩) := hF.2.2.2 2 4 _ rfl (hdep ⟨2, .data⟩ (by simp) rfl)
      have da1 : ac.eval (.tmp 9) = .int .i64 (max (c / 2) (4 * m)) := hF.2.2.2 7 9 _ rfl (hdep ⟨7, .data⟩ (by simp) rfl)
      have hA := hW.at (k := 1) rfl hi (.inr ⟨7, rfl, (hdep ⟨7, .data⟩ (by simp) rfl)⟩)
      refine Rg.ex_call x rfl rfl (Rg.enter (args := #[.pointer (some ⟨b, 0, none⟩), .int .i64 (max (c / 2) (4 * m))]) rfl rfl (by simp [da0, da1]) EW.out) (Calls.mono (WD.out _ (hA.1 (by omega)).1) ?_)
      rintro e w2 ⟨rfl, hH, hO⟩
      exact ⟨rfl, hW.next (k := 1) rfl (by decide) hi (.inr ⟨7, rfl, (hdep ⟨7, .data⟩ (by simp) rfl)⟩) ⟨fun h => absurd h (by decide), fun _ => ⟨hH, (hA.1 (by omega)).2.then hO⟩⟩⟩
  case refine_2 =>
    intro x w' hW
    have hw := hidden (hW.last.2 (by decide))
    clear hW
    simp only [Ord.puts, Ord.prs]
    go_simp
    go_wp2
    go_end0
    exact ⟨rfl, hw.out⟩
  case refine_3 => exact Rg.StM.first ⟨fun _ => ⟨H.out, (Only.refl _ w).drew⟩, fun h => absurd h (by decide)⟩
theorem idleF (hm : 100 ≤ m ∧ m ≤ 1500) (hc : 0 ≤ c ∧ c ≤ 1073741824) (h : Has w b #[.int .i64 c, .int .i64 s, .int .i64 p, .int .i64 m, .int .i64 k, .int .i64 y] 50) : Calls Try.prog 36 #[.pointer (some ⟨b, 0, none⟩)] w fun e w' => e = .returned (.tuple #[]) ∧ Has w' b #[.int .i64 (min (max (c / 2) (4 * m)) c), .int .i64 s, .int .i64 0, .int .i64 m, .int .i64 k, .int .i64 y] 50 ∧ Only [b] w w' := by
  have DC := hidden (decay hm hc h)
  clear h hm hc
  go_enter Try.func36, Try.ntmps36
  go_wp2_with fail
  refine Calls.mono DC.out ?_
  rintro e w2 ⟨rfl, hH, hO⟩
  have H2 := hidden (And.intro hH hO)
  clear hH hO DC
  go_wp2
  go_end0
  exact ⟨rfl, H2.out⟩
end
end Go.Proofs.Ytaaghlgleofcgaa.Cw
