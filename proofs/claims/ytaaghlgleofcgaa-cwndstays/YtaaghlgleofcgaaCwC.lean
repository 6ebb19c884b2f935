/-
  Windows in memory: what the methods make of them.
  Conditions: as at each lemma.
-/
import Derived.Test.YtaaghlgleofcgaaCwB
namespace Go.Proofs.Ytaaghlgleofcgaa.Cw
open Go.ChangeShapes Go.WideShapes Go.ChangeAt Go.RowKit
open Ba (hidden Has Only)
open Ow (Own)
set_option linter.unusedVariables false

theorem cells6 {w : World} {b : Nat} {c s p m k y : Int} (h : Has w b #[.int .i64 c, .int .i64 s, .int .i64 p, .int .i64 m, .int .i64 k, .int .i64 y] 50) : w.cell? ⟨b, 0, none⟩ = some (.int .i64 c) ∧ w.cell? ⟨b, 1, none⟩ = some (.int .i64 s) ∧ w.cell? ⟨b, 2, none⟩ = some (.int .i64 p) ∧ w.cell? ⟨b, 3, none⟩ = some (.int .i64 m) ∧ w.cell? ⟨b, 4, none⟩ = some (.int .i64 k) ∧ w.cell? ⟨b, 5, none⟩ = some (.int .i64 y) :=
  ⟨h.cell 0 rfl, h.cell 1 rfl, h.cell 2 rfl, h.cell 3 rfl, h.cell 4 rfl, h.cell 5 rfl⟩
/-- a row is built, a number is told, and stored -/
def Bk3 (w : World) (b N : Nat) (G G' X : Array Value) (k : Nat) (w' : World) : Prop :=
  Only [b] w w' ∧ (k ≤ 2 → Has w' b G 50) ∧ (k = 0 → w'.heap.size = N) ∧ (k = 1 → Has w' N X 3) ∧ (3 ≤ k → Has w' b G' 50)
section
variable {w w' w2 : World} {b N : Nat} {G G' X : Array Value}
theorem Bk3.first (ho : Only [b] w w') (h : Has w' b G 50) (hn : w'.heap.size = N) : Bk3 w b N G G' X 0 w'.drew := ⟨ho.drew, fun _ => h, fun _ => hn, fun e => absurd e (by decide), fun e => absurd e (by decide)⟩
theorem Bk3.old {k : Nat} (h : Bk3 w b N G G' X k w') (hk : k ≤ 2) : Has w' b G 50 := h.2.1 hk
theorem Bk3.size (h : Bk3 w b N G G' X 0 w') : w'.heap.size = N := h.2.2.1 rfl
theorem Bk3.new (h : Bk3 w b N G G' X 1 w') : Has w' N X 3 := h.2.2.2.1 rfl
theorem Bk3.build (h : Bk3 w b N G G' X 0 w') : Bk3 w b N G G' X (0 + 1) (w'.alloc (.cells X 3)) := by
  have hs := h.size
  subst hs
  exact ⟨h.1.then (Only.alloc _ _ _), fun _ => (h.old (by decide)).later ((Below.refl _ _).alloc (Nat.le_refl _) _), fun e => absurd e (by decide), fun _ => Has.new _ _ _, fun e => absurd e (by decide)⟩
theorem Bk3.call (h : Bk3 w b N G G' X 1 w') (hB : Below w'.heap.size w' w2) : Bk3 w b N G G' X (1 + 1) w2 :=
  ⟨h.1.then (Only.of_below hB), fun _ => (h.old (by decide)).later hB, fun e => absurd e (by decide), fun e => absurd e (by decide), fun e => absurd e (by decide)⟩
theorem Bk3.store (h : Bk3 w b N G G' X 2 w') (i : Nat) (u : Value) (he : G.setIfInBounds i u = G') : Bk3 w b N G G' X (2 + 1) (w'.setCell ⟨b, i, none⟩ u) := by
  refine ⟨h.1.then (Only.setCell _ (by simp) _), fun e => absurd e (by decide), fun e => absurd e (by decide), fun e => absurd e (by decide), fun _ => ?_⟩
  rw [← he]
  exact (h.old (by decide)).set i u
theorem Bk3.out (h : Bk3 w b N G G' X 3 w') : Has w' b G' 50 ∧ Only [b] w w' := ⟨h.2.2.2.2 (by decide), h.1⟩
end
theorem add_ {x y : Int} (h : -9223372036854775808 ≤ x + y ∧ x + y ≤ 9223372036854775807) (u v : Operand) (w : World) : (do eqGuard .add 3 u v (.int .i64 x) (.int .i64 y); binOp .add 3 (.int .i64 x) (.int .i64 y) : Sem Value).run Try.prog w = .ok (.int .i64 (x + y)) w := by
  have hw : IntKind.i64.wrap (x + y) = x + y := by rw [IntKind.wrap_i64]; omega
  simp [go_sem, hw]
section
variable {w : World} {b : Nat} {c s p m k y : Int}
theorem widen {n : Int} (hn : -9223372036854775808 ≤ c + n ∧ c + n ≤ 9223372036854775807) (h : Has w b #[.int .i64 c, .int .i64 s, .int .i64 p, .int .i64 m, .int .i64 k, .int .i64 y] 50) : Calls Try.prog 31 #[.pointer (some ⟨b, 0, none⟩), .int .i64 n] w fun e w' => e = .returned (.tuple #[]) ∧ Has w' b #[.int .i64 (min (max (c + n) m) k), .int .i64 s, .int .i64 p, .int .i64 m, .int .i64 k, .int .i64 y] 50 ∧ Only [b] w w' := by
  have H := hidden h
  have AD := hidden (add_ hn)
  have EK : Hid (∀ (args : Array Value) (w : World), (callFunc 40 args).run Try.prog w = .ok (.enter 40 args) w) := enters_of Try.func40 (by kernel_rfl) rfl
  have KE : Hid (∀ W, Has W w.heap.size #[.int .i64 k] 3 → Calls Try.prog 40 #[.int .i64 (c + n), .int .i64 m, .slice (some ⟨w.heap.size, 0, none⟩) 1 1] W fun e w' => e = .returned (.int .i64 (min (max (c + n) m) k)) ∧ W = w') := fun W h => keep1 h _ _
  clear h hn
  go_enter Try.func31, Try.ntmps31
  go_upto_region 0 with fail
  refine Ord.wp_region_ex0 (X := Unit) (by kernel_rfl) 27 (fun x => [(some 4, .pointer (some ⟨b, 0, none⟩)), (some 5, .pointer (some ⟨b, 0, none⟩)), (some 6, .pointer (some ⟨b, 0, none⟩)), (some 7, .pointer (some ⟨b, 0, none⟩)), (some 8, .pointer (some ⟨b, 0, none⟩)), (some 9, .int .i64 c), (some 10, .int .i64 n), (some 11, .int .i64 (c + n)), (some 12, .pointer (some ⟨b, 0, none⟩)), (some 13, .pointer (some ⟨b, 0, none⟩)), (some 14, .pointer (some ⟨b, 0, none⟩)), (some 15, .pointer (some ⟨b, 3, none⟩)), (some 16, .int .i64 m), (some 17, .pointer (some ⟨b, 0, none⟩)), (some 18, .pointer (some ⟨b, 0, none⟩)), (some 19, .pointer (some ⟨b, 0, none⟩)), (some 20, .pointer (some ⟨b, 4, none⟩)), (some 21, .int .i64 k), (some 22, .slice (some ⟨w.heap.size, 0, none⟩) 1 1), (some 23, .int .i64 (min (max (c + n) m) k)), (some 24, .pointer (some ⟨b, 0, none⟩)), (some 25, .pointer (some ⟨b, 0, none⟩)), (some 26, .pointer (some ⟨b, 0, none⟩)), (none, undef)]) [some 4, some 5, some 6, some 7, some 8, some 9, some 10, some 11, some 12, some 13, some 14, some 15, some 16, some 17, some 18, some 19, some 20, some 21, some 22, some 23, some 24, some 25, some 26, none] rfl (fun listed hsz hr => Ord.all_listedC (rank := [0, 1, 2, 3, 4, 5, 6, 7, 8, 9, 10, 11, 12, 13, 14, 15, 16, 17, 18, 19, 20, 21, 22, 23]) (by kernel_rfl) hsz hr) (by rfl) (fun _ => rfl) (by kernel_rfl) (Rg.StM [18, 19, 23] (fun kA _ w' => Bk3 w b w.heap.size #[.int .i64 c, .int .i64 s, .int .i64 p, .int .i64 m, .int .i64 k, .int .i64 y] #[.int .i64 (min (max (c + n) m) k), .int .i64 s, .int .i64 p, .int .i64 m, .int .i64 k, .int .i64 y] #[.int .i64 k] kA w')) (fun _ _ _ _ hL h => h.ext (n := 24) (by decide) hL) ?_ ?_ () ?_
  case refine_1 =>
    intro x Lq iq oq ac w' ho hi hcl hdep hF hW
    have f1 : ac.tmps.size = 27 := hF.1
    match iq, ho, hi, hdep with
    | 0, ho, hi, hdep =>
      cases ho
      have da0 : ac.eval (.tmp 0) = .pointer (some ⟨b, 0, none⟩) := hF.old 0 rfl
      exact Ord.ex_value x rfl rfl (Rg.mv da0 rfl) rfl (hW.keep (by decide))
    | 1, ho, hi, hdep =>
      cases ho
      have da0 : ac.eval (.tmp 0) = .pointer (some ⟨b, 0, none⟩) := hF.old 0 rfl
      exact Ord.ex_value x rfl rfl (Rg.mv da0 rfl) rfl (hW.keep (by decide))
    | 2, ho, hi, hdep =>
      cases ho
      have da0 : ac.eval (.tmp 5) = .pointer (some ⟨b, 0, none⟩) := hF.2.2.2 1 5 _ rfl (hdep ⟨1, .data⟩ (by simp) rfl)
      exact Ord.ex_value x rfl rfl (Rg.nilc da0 rfl) rfl (hW.keep (by decide))
    | 3, ho, hi, hdep =>
      cases ho
      have da0 : ac.eval (.tmp 6) = .pointer (some ⟨b, 0, none⟩) := hF.2.2.2 2 6 _ rfl (hdep ⟨2, .data⟩ (by simp) rfl)
      exact Ord.ex_value x rfl rfl (Rg.fa da0 rfl (by simp [go_sem])) rfl (hW.keep (by decide))
    | 4, ho, hi, hdep =>
      cases ho
      have da0 : ac.eval (.tmp 7) = .pointer (some ⟨b, 0, none⟩) := hF.2.2.2 3 7 _ rfl (hdep ⟨3, .data⟩ (by simp) rfl)
      exact Ord.ex_value x rfl rfl (Rg.fa da0 rfl (by simp [go_sem])) rfl (hW.keep (by decide))
    | 5, ho, hi, hdep =>
      cases ho
      have da0 : ac.eval (.tmp 8) = .pointer (some ⟨b, 0, none⟩) := hF.2.2.2 4 8 _ rfl (hdep ⟨4, .data⟩ (by simp) rfl)
      obtain ⟨kq, hlo, hhi, hA⟩ := hW.range 0 1 (.inl rfl) (.inr ⟨19, rfl, (Rg.no_of (fun h => hcl 7 _ rfl (hcl 19 _ rfl (h) ⟨7, .data⟩ (by simp) rfl) ⟨5, .data⟩ (by simp) rfl) hi)⟩)
      obtain ⟨c0, c1, c2, c3, c4, c5⟩ := cells6 (hA.old (by omega))
      exact Ord.ex_value x rfl rfl (Rg.load da0 rfl (by simp [go_sem, c0])) rfl (hW.keep (by decide))
    | 6, ho, hi, hdep =>
      cases ho
      have da0 : ac.eval (.tmp 1) = .int .i64 n := hF.old 1 rfl
      exact Ord.ex_value x rfl rfl (Rg.mv da0 rfl) rfl (hW.keep (by decide))
    | 7, ho, hi, hdep =>
      cases ho
      have da0 : ac.eval (.tmp 9) = .int .i64 c := hF.2.2.2 5 9 _ rfl (hdep ⟨5, .data⟩ (by simp) rfl)
      have da1 : ac.eval (.tmp 10) = .int .i64 n := hF.2.2.2 6 10 _ rfl (hdep ⟨6, .data⟩ (by simp) rfl)
      exact Ord.ex_value x rfl rfl (Rg.bin da0 da1 rfl (AD.out _ _ _)) rfl (hW.keep (by decide))
    | 8, ho, hi, hdep =>
      cases ho
      have da0 : ac.eval (.tmp 0) = .pointer (some ⟨b, 0, none⟩) := hF.old 0 rfl
      exact Ord.ex_value x rfl rfl (Rg.mv da0 rfl) rfl (hW.keep (by decide))
    | 9, ho, hi, hdep =>
      cases ho
      have da0 : ac.eval (.tmp 12) = .pointer (some ⟨b, 0, none⟩) := hF.2.2.2 8 12 _ rfl (hdep ⟨8, .data⟩ (by simp) rfl)
      exact Ord.ex_value x rfl rfl (Rg.nilc da0 rfl) rfl (hW.keep (by decide))
    | 10, ho, hi, hdep =>
      cases ho
      have da0 : ac.eval (.tmp 13) = .pointer (some ⟨b, 0, none⟩) := hF.2.2.2 9 13 _ rfl (hdep ⟨9, .data⟩ (by simp) rfl)
      exact Ord.ex_value x rfl rfl (Rg.fa da0 rfl (by simp [go_sem])) rfl (hW.keep (by decide))
    | 11, ho, hi, hdep =>
      cases ho
      have da0 : ac.eval (.tmp 14) = .pointer (some ⟨b, 0, none⟩) := hF.2.2.2 10 14 _ rfl (hdep ⟨10, .data⟩ (by simp) rfl)
      exact Ord.ex_value x rfl rfl (Rg.fa da0 rfl (by simp [go_sem])) rfl (hW.keep (by decide))
    | 12, ho, hi, hdep =>
      cases ho
      have da0 : ac.eval (.tmp 15) = .pointer (some ⟨b, 3, none⟩) := hF.2.2.2 11 15 _ rfl (hdep ⟨11, .data⟩ (by simp) rfl)
      obtain ⟨kq, hlo, hhi, hA⟩ := hW.range 0 1 (.inl rfl) (.inr ⟨19, rfl, (Rg.no_of (fun h => hcl 19 _ rfl (h) ⟨12, .data⟩ (by simp) rfl) hi)⟩)
      obtain ⟨c0, c1, c2, c3, c4, c5⟩ := cells6 (hA.old (by omega))
      exact Ord.ex_value x rfl rfl (Rg.load da0 rfl (by simp [go_sem, c3])) rfl (hW.keep (by decide))
    | 13, ho, hi, hdep =>
      cases ho
      have da0 : ac.eval (.tmp 0) = .pointer (some ⟨b, 0, none⟩) := hF.old 0 rfl
      exact Ord.ex_value x rfl rfl (Rg.mv da0 rfl) rfl (hW.keep (by decide))
    | 14, ho, hi, hdep =>
      cases ho
      have da0 : ac.eval (.tmp 17) = .pointer (some ⟨b, 0, none⟩) := hF.2.2.2 13 17 _ rfl (hdep ⟨13, .data⟩ (by simp) rfl)
      exact Ord.ex_value x rfl rfl (Rg.nilc da0 rfl) rfl (hW.keep (by decide))
    | 15, ho, hi, hdep =>
      cases ho
      have da0 : ac.eval (.tmp 18) = .pointer (some ⟨b, 0, none⟩) := hF.2.2.2 14 18 _ rfl (hdep ⟨14, .data⟩ (by simp) rfl)
      exact Ord.ex_value x rfl rfl (Rg.fa da0 rfl (by simp [go_sem])) rfl (hW.keep (by decide))
    | 16, ho, hi, hdep =>
      cases ho
      have da0 : ac.eval (.tmp 19) = .pointer (some ⟨b, 0, none⟩) := hF.2.2.2 15 19 _ rfl (hdep ⟨15, .data⟩ (by simp) rfl)
      exact Ord.ex_value x rfl rfl (Rg.fa da0 rfl (by simp [go_sem])) rfl (hW.keep (by decide))
    | 17, ho, hi, hdep =>
      cases ho
      have da0 : ac.eval (.tmp 20) = .pointer (some ⟨b, 4, none⟩) := hF.2.2.2 16 20 _ rfl (hdep ⟨16, .data⟩ (by simp) rfl)
      obtain ⟨kq, hlo, hhi, hA⟩ := hW.range 0 0 (.inl rfl) (.inr ⟨18, rfl, (Rg.no_of (fun h => hcl 18 _ rfl (h) ⟨17, .data⟩ (by simp) rfl) hi)⟩)
      obtain ⟨c0, c1, c2, c3, c4, c5⟩ := cells6 (hA.old (by omega))
      exact Ord.ex_value x rfl rfl (Rg.load da0 rfl (by simp [go_sem, c4])) rfl (hW.keep (by decide))
    | 18, ho, hi, hdep =>
      cases ho
      have da0 : ac.eval (.tmp 21) = .int .i64 k := hF.2.2.2 17 21 _ rfl (hdep ⟨17, .data⟩ (by simp) rfl)
      have hA := hW.at (k := 0) rfl hi (.inl rfl)
      exact Ord.ex_value x rfl rfl (Rg.bsl rfl (by simp [da0]) (bs1 hA.size _)) rfl (hW.next (k := 0) rfl (by decide) hi (.inl rfl) hA.build)
    | 19, ho, hi, hdep =>
      cases ho
      have da0 : ac.eval (.tmp 11) = .int .i64 (c + n) := hF.2.2.2 7 11 _ rfl (hdep ⟨7, .data⟩ (by simp) rfl)
      have da1 : ac.eval (.tmp 16) = .int .i64 m := hF.2.2.2 12 16 _ rfl (hdep ⟨12, .data⟩ (by simp) rfl)
      have da2 : ac.eval (.tmp 22) = .slice (some ⟨w.heap.size, 0, none⟩) 1 1 := hF.2.2.2 18 22 _ rfl (hdep ⟨18, .data⟩ (by simp) rfl)
      have hA := hW.at (k := 1) rfl hi (.inr ⟨18, rfl, (hdep ⟨18, .data⟩ (by simp) rfl)⟩)
      refine Rg.ex_call x rfl rfl (Rg.enter (args := #[.int .i64 (c + n), .int .i64 m, .slice (some ⟨w.heap.size, 0, none⟩) 1 1]) rfl rfl (by simp [da0, da1, da2]) EK.out) (Calls.mono (KE.out _ hA.new) ?_)
      rintro e w2 ⟨rfl, rfl⟩
      exact ⟨rfl, hW.next (k := 1) rfl (by decide) hi (.inr ⟨18, rfl, (hdep ⟨18, .data⟩ (by simp) rfl)⟩) (hA.call (Below.refl _ _))⟩
    | 20, ho, hi, hdep =>
      cases ho
      have da0 : ac.eval (.tmp 4) = .pointer (some ⟨b, 0, none⟩) := hF.2.2.2 0 4 _ rfl (hdep ⟨0, .data⟩ (by simp) rfl)
      exact Ord.ex_value x rfl rfl (Rg.nilc da0 rfl) rfl (hW.keep (by decide))
    | 21, ho, hi, hdep =>
      cases ho
      have da0 : ac.eval (.tmp 24) = .pointer (some ⟨b, 0, none⟩) := hF.2.2.2 20 24 _ rfl (hdep ⟨20, .data⟩ (by simp) rfl)
      exact Ord.ex_value x rfl rfl (Rg.fa da0 rfl (by simp [go_sem])) rfl (hW.keep (by decide))
    | 22, ho, hi, hdep =>
      cases ho
      have da0 : ac.eval (.tmp 25) = .pointer (some ⟨b, 0, none⟩) := hF.2.2.2 21 25 _ rfl (hdep ⟨21, .data⟩ (by simp) rfl)
      exact Ord.ex_value x rfl rfl (Rg.fa da0 rfl (by simp [go_sem])) rfl (hW.keep (by decide))
    | 23, ho, hi, hdep =>
      cases ho
      have da0 : ac.eval (.tmp 26) = .pointer (some ⟨b, 0, none⟩) := hF.2.2.2 22 26 _ rfl (hdep ⟨22, .data⟩ (by simp) rfl)
      have da1 : ac.eval (.tmp 23) = .int .i64 (min (max (c + n) m) k) := hF.2.2.2 19 23 _ rfl (hdep ⟨19, .data⟩ (by simp) rfl)
      have hA := hW.at (k := 2) rfl hi (.inr ⟨19, rfl, (hdep ⟨19, .data⟩ (by simp) rfl)⟩)
      obtain ⟨c0, c1, c2, c3, c4, c5⟩ := cells6 (hA.old (by omega))
      have fz := (hA.old (by omega)).frozen 0
      exact Rg.ex_skip x rfl rfl (Rg.sto da0 da1 rfl (by simp [go_sem, c0, fz])) rfl (hW.next (k := 2) rfl (by decide) hi (.inr ⟨19, rfl, (hdep ⟨19, .data⟩ (by simp) rfl)⟩) (hA.store 0 _ rfl))
  case refine_2 =>
    intro x w' hW
    have hw := hidden hW.last.out
    clear hW
    simp only [Ord.puts, Ord.prs]
    go_simp
    go_wp2
    go_end0
    exact ⟨rfl, hw.out⟩
  case refine_3 => exact Rg.StM.first (Bk3.first (Only.refl _ w) H.out rfl)
theorem shrink {n : Int} (hm : 100 ≤ m ∧ m ≤ 1500) (hc : 0 ≤ c ∧ c ≤ 1073741824) (h : Has w b #[.int .i64 c, .int .i64 s, .int .i64 p, .int .i64 m, .int .i64 k, .int .i64 y] 50) : Calls Try.prog 33 #[.pointer (some ⟨b, 0, none⟩), .int .i64 n] w fun e w' => e = .returned (.tuple #[]) ∧ Has w' b #[.int .i64 (min (max n m) k), .int .i64 (max (c / 2) (4 * m)), .int .i64 0, .int .i64 m, .int .i64 k, .int .i64 y] 50 ∧ Only [b] w w' := by
  obtain ⟨c0, c1, c2, c3, c4, c5⟩ := cells6 h
  have H := hidden h
  have HF := hidden (fun W => half0 (c := c) (s := s) (p := p) (m := m) (k := k) hm hc W)
  have EK : Hid (∀ (args : Array Value) (w : World), (callFunc 40 args).run Try.prog w = .ok (.enter 40 args) w) := enters_of Try.func40 (by kernel_rfl) rfl
  clear h hm hc
  go_enter Try.func33, Try.ntmps33
  go_wp2_with fail
  refine Calls.mono (HF.out _) ?_
  rintro e w1 ⟨rfl, hB1⟩
  have H1 := hidden (H.out.later hB1)
  clear c0 c1 c2 c3 c4 c5
  obtain ⟨c0, c1, c2, c3, c4, c5⟩ := cells6 H1.out
  have f1 := H1.out.frozen 1
  have H2 : Hid (Has (w1.setCell ⟨b, 1, none⟩ (.int .i64 (max (c / 2) (4 * m)))) b #[.int .i64 c, .int .i64 (max (c / 2) (4 * m)), .int .i64 p, .int .i64 m, .int .i64 k, .int .i64 y] 50 ∧ Only [b] w (w1.setCell ⟨b, 1, none⟩ (.int .i64 (max (c / 2) (4 * m))))) := ⟨H1.out.set 1 _, (Only.of_below hB1).then (Only.setCell _ (by simp) _)⟩
  have KE : Hid (∀ W, Has W w1.heap.size #[.int .i64 k] 3 → Calls Try.prog 40 #[.int .i64 n, .int .i64 m, .slice (some ⟨w1.heap.size, 0, none⟩) 1 1] W fun e w' => e = .returned (.int .i64 (min (max n m) k)) ∧ W = w') := fun W h => keep1 h _ _
  clear hB1 H HF
  go_upto_region 1 with fail
  clear f1
  refine Ord.wp_region_ex0 (X := Unit) (by kernel_rfl) 33 (fun x => [(some 12, .pointer (some ⟨b, 0, none⟩)), (some 13, .int .i64 n), (some 14, .pointer (some ⟨b, 0, none⟩)), (some 15, .pointer (some ⟨b, 0, none⟩)), (some 16, .pointer (some ⟨b, 0, none⟩)), (some 17, .pointer (some ⟨b, 3, none⟩)), (some 18, .int .i64 m), (some 19, .pointer (some ⟨b, 0, none⟩)), (some 20, .pointer (some ⟨b, 0, none⟩)), (some 21, .pointer (some ⟨b, 0, none⟩)), (some 22, .pointer (some ⟨b, 4, none⟩)), (some 23, .int .i64 k), (some 24, .slice (some ⟨w1.heap.size, 0, none⟩) 1 1), (some 25, .int .i64 (min (max n m) k)), (some 26, .pointer (some ⟨b, 0, none⟩)), (some 27, .pointer (some ⟨b, 0, none⟩)), (some 28, .pointer (some ⟨b, 0, none⟩)), (none, undef)]) [some 12, some 13, some 14, some 15, some 16, some 17, some 18, some 19, some 20, some 21, some 22, some 23, some 24, some 25, some 26, some 27, some 28, none] rfl (fun listed hsz hr => Ord.all_listedC (rank := [0, 1, 2, 3, 4, 5, 6, 7, 8, 9, 10, 11, 12, 13, 14, 15, 16, 17]) (by kernel_rfl) hsz hr) (by rfl) (fun _ => rfl) (by kernel_rfl) (Rg.StM [12, 13, 17] (fun kA _ w' => Bk3 w b w1.heap.size #[.int .i64 c, .int .i64 (max (c / 2) (4 * m)), .int .i64 p, .int .i64 m, .int .i64 k, .int .i64 y] #[.int .i64 (min (max n m) k), .int .i64 (max (c / 2) (4 * m)), .int .i64 p, .int .i64 m, .int .i64 k, .int .i64 y] #[.int .i64 k] kA w')) (fun _ _ _ _ hL h => h.ext (n := 18) (by decide) hL) ?_ ?_ () ?_
  case refine_1 =>
    intro x Lq iq oq ac w' ho hi hcl hdep hF hW
    have f1 : ac.tmps.size = 33 := hF.1
    match iq, ho, hi, hdep with
    | 0, ho, hi, hdep =>
      cases ho
      have da0 : ac.eval (.tmp 0) = .pointer (some ⟨b, 0, none⟩) := hF.old 0 rfl
      exact Ord.ex_value x rfl rfl (Rg.mv da0 rfl) rfl (hW.keep (by decide))
    | 1, ho, hi, hdep =>
      cases ho
      have da0 : ac.eval (.tmp 1) = .int .i64 n := hF.old 1 rfl
      exact Ord.ex_value x rfl rfl (Rg.mv da0 rfl) rfl (hW.keep (by decide))
    | 2, ho, hi, hdep =>
      cases ho
      have da0 : ac.eval (.tmp 0) = .pointer (some ⟨b, 0, none⟩) := hF.old 0 rfl
      exact Ord.ex_value x rfl rfl (Rg.mv da0 rfl) rfl (hW.keep (by decide))
    | 3, ho, hi, hdep =>
      cases ho
      have da0 : ac.eval (.tmp 14) = .pointer (some ⟨b, 0, none⟩) := hF.2.2.2 2 14 _ rfl (hdep ⟨2, .data⟩ (by simp) rfl)
      exact Ord.ex_value x rfl rfl (Rg.nilc da0 rfl) rfl (hW.keep (by decide))
    | 4, ho, hi, hdep =>
      cases ho
      have da0 : ac.eval (.tmp 15) = .pointer (some ⟨b, 0, none⟩) := hF.2.2.2 3 15 _ rfl (hdep ⟨3, .data⟩ (by simp) rfl)
      exact Ord.ex_value x rfl rfl (Rg.fa da0 rfl (by simp [go_sem])) rfl (hW.keep (by decide))
    | 5, ho, hi, hdep =>
      cases ho
      have da0 : ac.eval (.tmp 16) = .pointer (some ⟨b, 0, none⟩) := hF.2.2.2 4 16 _ rfl (hdep ⟨4, .data⟩ (by simp) rfl)
      exact Ord.ex_value x rfl rfl (Rg.fa da0 rfl (by simp [go_sem])) rfl (hW.keep (by decide))
    | 6, ho, hi, hdep =>
      cases ho
      have da0 : ac.eval (.tmp 17) = .pointer (some ⟨b, 3, none⟩) := hF.2.2.2 5 17 _ rfl (hdep ⟨5, .data⟩ (by simp) rfl)
      obtain ⟨kq, hlo, hhi, hA⟩ := hW.range 0 1 (.inl rfl) (.inr ⟨13, rfl, (Rg.no_of (fun h => hcl 13 _ rfl (h) ⟨6, .data⟩ (by simp) rfl) hi)⟩)
      obtain ⟨c0, c1, c2, c3, c4, c5⟩ := cells6 (hA.old (by omega))
      exact Ord.ex_value x rfl rfl (Rg.load da0 rfl (by simp [go_sem, c3])) rfl (hW.keep (by decide))
    | 7, ho, hi, hdep =>
      cases ho
      have da0 : ac.eval (.tmp 0) = .pointer (some ⟨b, 0, none⟩) := hF.old 0 rfl
      exact Ord.ex_value x rfl rfl (Rg.mv da0 rfl) rfl (hW.keep (by decide))
    | 8, ho, hi, hdep =>
      cases ho
      have da0 : ac.eval (.tmp 19) = .pointer (some ⟨b, 0, none⟩) := hF.2.2.2 7 19 _ rfl (hdep ⟨7, .data⟩ (by simp) rfl)
      exact Ord.ex_value x rfl rfl (Rg.nilc da0 rfl) rfl (hW.keep (by decide))
    | 9, ho, hi, hdep =>
      cases ho
      have da0 : ac.eval (.tmp 20) = .pointer (some ⟨b, 0, none⟩) := hF.2.2.2 8 20 _ rfl (hdep ⟨8, .data⟩ (by simp) rfl)
      exact Ord.ex_value x rfl rfl (Rg.fa da0 rfl (by simp [go_sem])) rfl (hW.keep (by decide))
    | 10, ho, hi, hdep =>
      cases ho
      have da0 : ac.eval (.tmp 21) = .pointer (some ⟨b, 0, none⟩) := hF.2.2.2 9 21 _ rfl (hdep ⟨9, .data⟩ (by simp) rfl)
      exact Ord.ex_value x rfl rfl (Rg.fa da0 rfl (by simp [go_sem])) rfl (hW.keep (by decide))
    | 11, ho, hi, hdep =>
      cases ho
      have da0 : ac.eval (.tmp 22) = .pointer (some ⟨b, 4, none⟩) := hF.2.2.2 10 22 _ rfl (hdep ⟨10, .data⟩ (by simp) rfl)
      obtain ⟨kq, hlo, hhi, hA⟩ := hW.range 0 0 (.inl rfl) (.inr ⟨12, rfl, (Rg.no_of (fun h => hcl 12 _ rfl (h) ⟨11, .data⟩ (by simp) rfl) hi)⟩)
      obtain ⟨c0, c1, c2, c3, c4, c5⟩ := cells6 (hA.old (by omega))
      exact Ord.ex_value x rfl rfl (Rg.load da0 rfl (by simp [go_sem, c4])) rfl (hW.keep (by decide))
    | 12, ho, hi, hdep =>
      cases ho
      have da0 : ac.eval (.tmp 23) = .int .i64 k := hF.2.2.2 11 23 _ rfl (hdep ⟨11, .data⟩ (by simp) rfl)
      have hA := hW.at (k := 0) rfl hi (.inl rfl)
      exact Ord.ex_value x rfl rfl (Rg.bsl rfl (by simp [da0]) (bs1 hA.size _)) rfl (hW.next (k := 0) rfl (by decide) hi (.inl rfl) hA.build)
    | 13, ho, hi, hdep =>
      cases ho
      have da0 : ac.eval (.tmp 13) = .int .i64 n := hF.2.2.2 1 13 _ rfl (hdep ⟨1, .data⟩ (by simp) rfl)
      have da1 : ac.eval (.tmp 18) = .int .i64 m := hF.2.2.2 6 18 _ rfl (hdep ⟨6, .data⟩ (by simp) rfl)
      have da2 : ac.eval (.tmp 24) = .slice (some ⟨w1.heap.size, 0, none⟩) 1 1 := hF.2.2.2 12 24 _ rfl (hdep ⟨12, .data⟩ (by simp) rfl)
      have hA := hW.at (k := 1) rfl hi (.inr ⟨12, rfl, (hdep ⟨12, .data⟩ (by simp) rfl)⟩)
      refine Rg.ex_call x rfl rfl (Rg.enter (args := #[.int .i64 n, .int .i64 m, .slice (some ⟨w1.heap.size, 0, none⟩) 1 1]) rfl rfl (by simp [da0, da1, da2]) EK.out) (Calls.mono (KE.out _ hA.new) ?_)
      rintro e w2 ⟨rfl, rfl⟩
      exact ⟨rfl, hW.next (k := 1) rfl (by decide) hi (.inr ⟨12, rfl, (hdep ⟨12, .data⟩ (by simp) rfl)⟩) (hA.call (Below.refl _ _))⟩
    | 14, ho, hi, hdep =>
      cases ho
      have da0 : ac.eval (.tmp 12) = .pointer (some ⟨b, 0, none⟩) := hF.2.2.2 0 12 _ rfl (hdep ⟨0, .data⟩ (by simp) rfl)
      exact Ord.ex_value x rfl rfl (Rg.nilc da0 rfl) rfl (hW.keep (by decide))
    | 15, ho, hi, hdep =>
      cases ho
      have da0 : ac.eval (.tmp 26) = .pointer (some ⟨b, 0, none⟩) := hF.2.2.2 14 26 _ rfl (hdep ⟨14, .data⟩ (by simp) rfl)
      exact Ord.ex_value x rfl rfl (Rg.fa da0 rfl (by simp [go_sem])) rfl (hW.keep (by decide))
    | 16, ho, hi, hdep =>
      cases ho
      have da0 : ac.eval (.tmp 27) = .pointer (some ⟨b, 0, none⟩) := hF.2.2.2 15 27 _ rfl (hdep ⟨15, .data⟩ (by simp) rfl)
      exact Ord.ex_value x rfl rfl (Rg.fa da0 rfl (by simp [go_sem])) rfl (hW.keep (by decide))
    | 17, ho, hi, hdep =>
      cases ho
      have da0 : ac.eval (.tmp 28) = .pointer (some ⟨b, 0, none⟩) := hF.2.2.2 16 28 _ rfl (hdep ⟨16, .data⟩ (by simp) rfl)
      have da1 : ac.eval (.tmp 25) = .int .i64 (min (max n m) k) := hF.2.2.2 13 25 _ rfl (hdep ⟨13, .data⟩ (by simp) rfl)
      have hA := hW.at (k := 2) rfl hi (.inr ⟨13, rfl, (hdep ⟨13, .data⟩ (by simp) rfl)⟩)
      obtain ⟨c0, c1, c2, c3, c4, c5⟩ := cells6 (hA.old (by omega))
      have fz := (hA.old (by omega)).frozen 0
      exact Rg.ex_skip x rfl rfl (Rg.sto da0 da1 rfl (by simp [go_sem, c0, fz])) rfl (hW.next (k := 2) rfl (by decide) hi (.inr ⟨13, rfl, (hdep ⟨13, .data⟩ (by simp) rfl)⟩) (hA.store 0 _ rfl))
  case refine_2 =>
    intro x w' hW
    have hw := hidden hW.last.out
    clear hW
    simp only [Ord.puts, Ord.prs]
    go_simp
    have d2 := hw.out.1.cell 2 rfl
    have g2 := hw.out.1.frozen 2
    go_wp2
    go_end0
    exact ⟨rfl, hw.out.1.set 2 _, hw.out.2.then (Only.setCell _ (by simp) _)⟩
  case refine_3 => exact Rg.StM.first (Bk3.first H2.out.2 H2.out.1 (World.size_setCell _ _ _))
theorem decay (hm : 100 ≤ m ∧ m ≤ 1500) (hc : 0 ≤ c ∧ c ≤ 1073741824) (h : Has w b #[.int .i64 c, .int .i64 s, .int .i64 p, .int .i64 m, .int .i64 k, .int .i64 y] 50) : Calls Try.prog 37 #[.pointer (some ⟨b, 0, none⟩)] w fun e w' => e = .returned (.tuple #[]) ∧ Has w' b #[.int .i64 (min (max (c / 2) (4 * m)) c), .int .i64 s, .int .i64 0, .int .i64 m, .int .i64 k, .int .i64 y] 50 ∧ Only [b] w w' := by
  have H := hidden h
  have HF : Hid (∀ W, Has W w.heap.size #[.int .i64 c] 3 → Calls Try.prog 34 #[.agg #[.int .i64 c, .int .i64 s, .int .i64 p, .int .i64 m, .int .i64 k], .slice (some ⟨w.heap.size, 0, none⟩) 1 1] W fun e w' => e = .returned (.int .i64 (min (max (c / 2) (4 * m)) c)) ∧ Below W.heap.size W w') := fun W h => half1 hm hc W h
  have EH : Hid (∀ (args : Array Value) (w : World), (callFunc 34 args).run Try.prog w = .ok (.enter 34 args) w) := enters_of Try.func34 (by kernel_rfl) rfl
  clear h hm hc
  go_enter Try.func37, Try.ntmps37
  go_upto_region 0 with fail
  refine Ord.wp_region_ex0 (X := Unit) (by kernel_rfl) 20 (fun x => [(some 2, .pointer (some ⟨b, 0, none⟩)), (some 3, .pointer (some ⟨b, 0, none⟩)), (some 4, .pointer (some ⟨b, 0, none⟩)), (some 5, .agg #[.int .i64 c, .int .i64 s, .int .i64 p, .int .i64 m, .int .i64 k]), (some 6, .pointer (some ⟨b, 0, none⟩)), (some 7, .pointer (some ⟨b, 0, none⟩)), (some 8, .pointer (some ⟨b, 0, none⟩)), (some 9, .pointer (some ⟨b, 0, none⟩)), (some 10, .int .i64 c), (some 11, .slice (some ⟨w.heap.size, 0, none⟩) 1 1), (some 12, .int .i64 (min (max (c / 2) (4 * m)) c)), (some 13, .pointer (some ⟨b, 0, none⟩)), (some 14, .pointer (some ⟨b, 0, none⟩)), (some 15, .pointer (some ⟨b, 0, none⟩)), (none, undef)]) [some 2, some 3, some 4, some 5, some 6, some 7, some 8, some 9, some 10, some 11, some 12, some 13, some 14, some 15, none] rfl (fun listed hsz hr => Ord.all_listedC (rank := [0, 1, 2, 3, 4, 5, 6, 7, 8, 9, 10, 11, 12, 13, 14]) (by kernel_rfl) hsz hr) (by rfl) (fun _ => rfl) (by kernel_rfl) (Rg.StM [9, 10, 14] (fun kA _ w' => Bk3 w b w.heap.size #[.int .i64 c, .int .i64 s, .int .i64 p, .int .i64 m, .int .i64 k, .int .i64 y] #[.int .i64 (min (max (c / 2) (4 * m)) c), .int .i64 s, .int .i64 p, .int .i64 m, .int .i64 k, .int .i64 y] #[.int .i64 c] kA w')) (fun _ _ _ _ hL h => h.ext (n := 15) (by decide) hL) ?_ ?_ () ?_
  case refine_1 =>
    intro x Lq iq oq ac w' ho hi hcl hdep hF hW
    have f1 : ac.tmps.size = 20 := hF.1
    match iq, ho, hi, hdep with
    | 0, ho, hi, hdep =>
      cases ho
      have da0 : ac.eval (.tmp 0) = .pointer (some ⟨b, 0, none⟩) := hF.old 0 rfl
      exact Ord.ex_value x rfl rfl (Rg.mv da0 rfl) rfl (hW.keep (by decide))
    | 1, ho, hi, hdep =>
      cases ho
      have da0 : ac.eval (.tmp 0) = .pointer (some ⟨b, 0, none⟩) := hF.old 0 rfl
      exact Ord.ex_value x rfl rfl (Rg.mv da0 rfl) rfl (hW.keep (by decide))
    | 2, ho, hi, hdep =>
      cases ho
      have da0 : ac.eval (.tmp 3) = .pointer (some ⟨b, 0, none⟩) := hF.2.2.2 1 3 _ rfl (hdep ⟨1, .data⟩ (by simp) rfl)
      exact Ord.ex_value x rfl rfl (Rg.nilc da0 rfl) rfl (hW.keep (by decide))
    | 3, ho, hi, hdep =>
      cases ho
      have da0 : ac.eval (.tmp 4) = .pointer (some ⟨b, 0, none⟩) := hF.2.2.2 2 4 _ rfl (hdep ⟨2, .data⟩ (by simp) rfl)
      obtain ⟨kq, hlo, hhi, hA⟩ := hW.range 0 1 (.inl rfl) (.inr ⟨10, rfl, (Rg.no_of (fun h => hcl 10 _ rfl (h) ⟨3, .data⟩ (by simp) rfl) hi)⟩)
      obtain ⟨c0, c1, c2, c3, c4, c5⟩ := cells6 (hA.old (by omega))
      exact Ord.ex_value x rfl rfl (Rg.load da0 rfl (by simp [go_sem, c0, c1, c2, c3, c4])) rfl (hW.keep (by decide))
    | 4, ho, hi, hdep =>
      cases ho
      have da0 : ac.eval (.tmp 0) = .pointer (some ⟨b, 0, none⟩) := hF.old 0 rfl
      exact Ord.ex_value x rfl rfl (Rg.mv da0 rfl) rfl (hW.keep (by decide))
    | 5, ho, hi, hdep =>
      cases ho
      have da0 : ac.eval (.tmp 6) = .pointer (some ⟨b, 0, none⟩) := hF.2.2.2 4 6 _ rfl (hdep ⟨4, .data⟩ (by simp) rfl)
      exact Ord.ex_value x rfl rfl (Rg.nilc da0 rfl) rfl (hW.keep (by decide))
    | 6, ho, hi, hdep =>
      cases ho
      have da0 : ac.eval (.tmp 7) = .pointer (some ⟨b, 0, none⟩) := hF.2.2.2 5 7 _ rfl (hdep ⟨5, .data⟩ (by simp) rfl)
      exact Ord.ex_value x rfl rfl (Rg.fa da0 rfl (by simp [go_sem])) rfl (hW.keep (by decide))
    | 7, ho, hi, hdep =>
      cases ho
      have da0 : ac.eval (.tmp 8) = .pointer (some ⟨b, 0, none⟩) := hF.2.2.2 6 8 _ rfl (hdep ⟨6, .data⟩ (by simp) rfl)
      exact Ord.ex_value x rfl rfl (Rg.fa da0 rfl (by simp [go_sem])) rfl (hW.keep (by decide))
    | 8, ho, hi, hdep =>
      cases ho
      have da0 : ac.eval (.tmp 9) = .pointer (some ⟨b, 0, none⟩) := hF.2.2.2 7 9 _ rfl (hdep ⟨7, .data⟩ (by simp) rfl)
      obtain ⟨kq, hlo, hhi, hA⟩ := hW.range 0 0 (.inl rfl) (.inr ⟨9, rfl, (Rg.no_of (fun h => hcl 9 _ rfl (h) ⟨8, .data⟩ (by simp) rfl) hi)⟩)
      obtain ⟨c0, c1, c2, c3, c4, c5⟩ := cells6 (hA.old (by omega))
      exact Ord.ex_value x rfl rfl (Rg.load da0 rfl (by simp [go_sem, c0])) rfl (hW.keep (by decide))
    | 9, ho, hi, hdep =>
      cases ho
      have da0 : ac.eval (.tmp 10) = .int .i64 c := hF.2.2.2 8 10 _ rfl (hdep ⟨8, .data⟩ (by simp) rfl)
      have hA := hW.at (k := 0) rfl hi (.inl rfl)
      exact Ord.ex_value x rfl rfl (Rg.bsl rfl (by simp [da0]) (bs1 hA.size _)) rfl (hW.next (k := 0) rfl (by decide) hi (.inl rfl) hA.build)
    | 10, ho, hi, hdep =>
      cases ho
      have da0 : ac.eval (.tmp 5) = .agg #[.int .i64 c, .int .i64 s, .int .i64 p, .int .i64 m, .int .i64 k] := hF.2.2.2 3 5 _ rfl (hdep ⟨3, .data⟩ (by simp) rfl)
      have da1 : ac.eval (.tmp 11) = .slice (some ⟨w.heap.size, 0, none⟩) 1 1 := hF.2.2.2 9 11 _ rfl (hdep ⟨9, .data⟩ (by simp) rfl)
      have hA := hW.at (k := 1) rfl hi (.inr ⟨9, rfl, (hdep ⟨9, .data⟩ (by simp) rfl)⟩)
      refine Rg.ex_call x rfl rfl (Rg.enter (args := #[.agg #[.int .i64 c, .int .i64 s, .int .i64 p, .int .i64 m, .int .i64 k], .slice (some ⟨w.heap.size, 0, none⟩) 1 1]) rfl rfl (by simp [da0, da1]) EH.out) (Calls.mono (HF.out _ hA.new) ?_)
      rintro e w2 ⟨rfl, hB⟩
      exact ⟨rfl, hW.next (k := 1) rfl (by decide) hi (.inr ⟨9, rfl, (hdep ⟨9, .data⟩ (by simp) rfl)⟩) (hA.call hB)⟩
    | 11, ho, hi, hdep =>
      cases ho
      have da0 : ac.eval (.tmp 2) = .pointer (some ⟨b, 0, none⟩) := hF.2.2.2 0 2 _ rfl (hdep ⟨0, .data⟩ (by simp) rfl)
      exact Ord.ex_value x rfl rfl (Rg.nilc da0 rfl) rfl (hW.keep (by decide))
    | 12, ho, hi, hdep =>
      cases ho
      have da0 : ac.eval (.tmp 13) = .pointer (some ⟨b, 0, none⟩) := hF.2.2.2 11 13 _ rfl (hdep ⟨11, .data⟩ (by simp) rfl)
      exact Ord.ex_value x rfl rfl (Rg.fa da0 rfl (by simp [go_sem])) rfl (hW.keep (by decide))
    | 13, ho, hi, hdep =>
      cases ho
      have da0 : ac.eval (.tmp 14) = .pointer (some ⟨b, 0, none⟩) := hF.2.2.2 12 14 _ rfl (hdep ⟨12, .data⟩ (by simp) rfl)
      exact Ord.ex_value x rfl rfl (Rg.fa da0 rfl (by simp [go_sem])) rfl (hW.keep (by decide))
    | 14, ho, hi, hdep =>
      cases ho
      have da0 : ac.eval (.tmp 15) = .pointer (some ⟨b, 0, none⟩) := hF.2.2.2 13 15 _ rfl (hdep ⟨13, .data⟩ (by simp) rfl)
      have da1 : ac.eval (.tmp 12) = .int .i64 (min (max (c / 2) (4 * m)) c) := hF.2.2.2 10 12 _ rfl (hdep ⟨10, .data⟩ (by simp) rfl)
      have hA := hW.at (k := 2) rfl hi (.inr ⟨10, rfl, (hdep ⟨10, .data⟩ (by simp) rfl)⟩)
      obtain ⟨c0, c1, c2, c3, c4, c5⟩ := cells6 (hA.old (by omega))
      have fz := (hA.old (by omega)).frozen 0
      exact Rg.ex_skip x rfl rfl (Rg.sto da0 da1 rfl (by simp [go_sem, c0, fz])) rfl (hW.next (k := 2) rfl (by decide) hi (.inr ⟨10, rfl, (hdep ⟨10, .data⟩ (by simp) rfl)⟩) (hA.store 0 _ rfl))
  case refine_2 =>
    intro x w' hW
    have hw := hidden hW.last.out
    clear hW
    simp only [Ord.puts, Ord.prs]
    go_simp
    have d2 := hw.out.1.cell 2 rfl
    have g2 := hw.out.1.frozen 2
    go_wp2
    go_end0
    exact ⟨rfl, hw.out.1.set 2 _, hw.out.2.then (Only.setCell _ (by simp) _)⟩
  case refine_3 => exact Rg.StM.first (Bk3.first (Only.refl _ w) H.out rfl)
end
end Go.Proofs.Ytaaghlgleofcgaa.Cw
