/-
  The order of timers: what the heap's two functions answer; numbers and times that may be.
  Conditions: none.
-/
import Derived.Test.YtinhhfnknlmdgaaTmA
import Derived.Deep.RegionWith
import Derived.Shelf.SlSortCmp.WholeK
namespace Go.Proofs.Ytinhhfnknlmdgaa.Tm
open Go.ChangeShapes Go.WideShapes Go.ChangeAt Go.RowKit Go.Sort
open Ba (hidden Only In Has own_ne own_stay own_len own_some own_mono cell_lt heap_lt)
set_option linter.unusedVariables false

/-- which of two numbers is less -/
def cmpI (x y : Int) : Int := if x < y then -1 else if y < x then 1 else 0
theorem nan (x : Int) (w : World) : Calls Try.prog 39 #[.int .i64 x] w fun e w' => e = .returned (.bool false) ∧ w = w' := by
  go_enter Try.func39, Try.ntmps39
  go_wp2
  go_ret
  simp
theorem compare (x y : Int) (w : World) : Calls Try.prog 24 #[.int .i64 x, .int .i64 y] w fun e w' => e = .returned (.int .i64 (cmpI x y)) ∧ w = w' := by
  have N := hidden nan
  have HC : Hid (∀ r, cmpI x y = r ↔ (if x < y then -1 else if y < x then 1 else 0) = r) := fun r => by unfold cmpI; exact Iff.rfl
  generalize cmpI x y = c at HC ⊢
  go_enter Try.func24, Try.ntmps24
  go_wp2_with fail
  refine (N.out _ _).mono ?_
  rintro e w' ⟨rfl, rfl⟩
  go_wp2_with fail
  refine (N.out _ _).mono ?_
  rintro e w' ⟨rfl, rfl⟩
  go_wp2
  all_goals go_ret
  all_goals (refine ⟨congrArg Ending.returned (congrArg (Value.int .i64) ?_), rfl⟩; symm; rw [HC.out])
  all_goals (first | (rw [if_pos (by assumption)]) | (rw [if_neg (by omega), if_pos (by omega)]) | (rw [if_neg (by omega), if_neg (by omega)]))
/-- the first of two that is not 0 -/
def pick2 (x y : Int) : Int := if x = 0 then y else x
def Is0 (x : Int) : Prop := x = 0
theorem or2 {w : World} {b : Nat} {x y : Int} (h0 : w.cell? ⟨b, 0, none⟩ = some (.int .i64 x)) (h1 : w.cell? ⟨b, 1, none⟩ = some (.int .i64 y)) : Calls Try.prog 23 #[.slice (some ⟨b, 0, none⟩) 2 2] w fun e w' => e = .returned (.int .i64 (pick2 x y)) ∧ w = w' := by
  go_enter Try.func23, Try.ntmps23
  go_wp2
  go_loopw [8] (fun i wr => (i = .int .i64 0 ∧ wr = w) ∨ (i = .int .i64 1 ∧ Is0 x ∧ wr = w) ∨ (i = .int .i64 2 ∧ Is0 x ∧ Is0 y ∧ wr = w)) (fun i _ => 2 - (intOf i).toNat)
  case atStart => exact .inl ⟨rfl, rfl⟩
  case round =>
    rcases hrel with ⟨rfl, rfl⟩ | ⟨rfl, hx, rfl⟩ | ⟨rfl, hx, hy, rfl⟩
    · by_cases e : x = 0
      · subst e
        go_wp2
        go_roundw
        case rel => exact .inr (.inl ⟨rfl, rfl, by trivial⟩)
        case measure => simp [intOf]
      · have e' : (x == 0) = false := beq_eq_false_iff_ne.2 e
        go_wp2
        go_ret
        exact ⟨by unfold pick2; rw [if_neg e]; rfl, rfl⟩
    · by_cases e : y = 0
      · subst e
        go_wp2
        go_roundw
        case rel => exact .inr (.inr ⟨rfl, hx, rfl, by trivial⟩)
        case measure => simp [intOf]
      · have e' : (y == 0) = false := beq_eq_false_iff_ne.2 e
        go_wp2
        go_ret
        exact ⟨by unfold pick2; rw [if_pos (show x = 0 from hx)]; rfl, rfl⟩
    · go_wp2
      go_ret
      exact ⟨by unfold pick2; rw [if_pos (show x = 0 from hx)]; rw [show y = 0 from hy]; rfl, rfl⟩
/-- which of two timers is ahead -/
def ordD (a b : D) : Int := pick2 (cmpI a.2 b.2) (cmpI a.1 b.1)

theorem keyF (d : D) (w : World) : Calls Try.prog 20 #[dv d] w fun e w' => e = .returned (.int .i64 d.1) ∧ Below w.heap.size w w' := by
  obtain ⟨i, t⟩ := d
  unfold dv
  go_enter Try.func20, Try.ntmps20
  go_wp2
  go_ret
  exact ⟨rfl, (Below.refl _ w).alloc (Nat.le_refl _) _⟩
/-- worlds while two timers are held against one another -/
def ordW (w : World) (i t j u : Int) : World := ((w.alloc (.cells #[.int .i64 i, .int .i64 t] 43)).alloc (.cells #[.int .i64 j, .int .i64 u] 43)).drew
def OrdA (w : World) (i t j u c d : Int) (k : Nat) (w' : World) : Prop :=
  w'.cell? ⟨w.heap.size, 1, none⟩ = some (.int .i64 t) ∧ w'.cell? ⟨w.heap.size, 0, none⟩ = some (.int .i64 i) ∧ w'.cell? ⟨w.heap.size + 1, 1, none⟩ = some (.int .i64 u) ∧ w'.cell? ⟨w.heap.size + 1, 0, none⟩ = some (.int .i64 j) ∧
  (k = 0 → w' = ordW w i t j u) ∧ (1 ≤ k → w' = (ordW w i t j u).alloc (.cells #[.int .i64 c, .int .i64 d] 3))
theorem bs2 (c d : Int) (w : World) : (Instr.buildSlice 34 2 #[(0, .int .i64 c), (1, .int .i64 d)]).run Try.prog w = .ok (.slice (some ⟨w.heap.size, 0, none⟩) 2 2) (w.alloc (.cells #[.int .i64 c, .int .i64 d] 3)) := by kernel_rfl
theorem ordA0 (w : World) (i t j u c d : Int) : OrdA w i t j u c d 0 (ordW w i t j u) := by
  refine ⟨?_, ?_, ?_, ?_, fun _ => rfl, fun h => absurd h (by decide)⟩
  all_goals (unfold ordW; go_simp)
theorem ordA1 (w : World) (i t j u c d : Int) : OrdA w i t j u c d (0 + 1) ((ordW w i t j u).alloc (.cells #[.int .i64 c, .int .i64 d] 3)) := by
  obtain ⟨h1, h2, h3, h4, _⟩ := ordA0 w i t j u c d
  have hl : (ordW w i t j u).heap.size = w.heap.size + 2 := by unfold ordW; simp
  have hB := (Below.refl _ (ordW w i t j u)).alloc (Nat.le_refl _) (.cells #[.int .i64 c, .int .i64 d] 3)
  exact ⟨(hB.cell (by rw [hl]; show w.heap.size < _; omega)).trans h1, (hB.cell (by rw [hl]; show w.heap.size < _; omega)).trans h2, (hB.cell (by rw [hl]; show w.heap.size + 1 < _; omega)).trans h3, (hB.cell (by rw [hl]; show w.heap.size + 1 < _; omega)).trans h4, fun h => absurd h (by decide), fun _ => rfl⟩
theorem ord_c0 (w : World) (i t j u c d : Int) : ((ordW w i t j u).alloc (.cells #[.int .i64 c, .int .i64 d] 3)).cell? ⟨w.heap.size + 2, 0, none⟩ = some (.int .i64 c) := by
  have hl : (ordW w i t j u).heap.size = w.heap.size + 2 := by unfold ordW; simp
  rw [← hl]; exact (Has.new _ _ _).cell 0 rfl
theorem ord_c1 (w : World) (i t j u c d : Int) : ((ordW w i t j u).alloc (.cells #[.int .i64 c, .int .i64 d] 3)).cell? ⟨w.heap.size + 2, 1, none⟩ = some (.int .i64 d) := by
  have hl : (ordW w i t j u).heap.size = w.heap.size + 2 := by unfold ordW; simp
  rw [← hl]; exact (Has.new _ _ _).cell 1 rfl
set_option maxHeartbeats 400000 in
theorem ordF (a b : D) (w : World) : Calls Try.prog 22 #[dv a, dv b] w fun e w' => e = .returned (.int .i64 (ordD a b)) ∧ ∃ q os', w' = grow (w.drewN q) os' := by
  obtain ⟨i, t⟩ := a
  obtain ⟨j, u⟩ := b
  have C := hidden compare
  have EC : Hid (∀ (args : Array Value) (w : World), (callFunc 24 args).run Try.prog w = .ok (.enter 24 args) w) := enters_of Try.func24 (by kernel_rfl) rfl
  have EO : Hid (∀ (args : Array Value) (w : World), (callFunc 23 args).run Try.prog w = .ok (.enter 23 args) w) := enters_of Try.func23 (by kernel_rfl) rfl
  rw [show ordD (i, t) (j, u) = pick2 (cmpI t u) (cmpI i j) from rfl]
  unfold dv
  go_enter Try.func22, Try.ntmps22
  go_upto_region 1 with fail
  refine Ord.wp_region_ex0 (X := Unit) (by kernel_rfl) 17 (fun x => [(some 5, .pointer (some ⟨w.heap.size, 1, none⟩)), (some 6, .int .i64 t), (some 7, .pointer (some ⟨w.heap.size + 1, 1, none⟩)), (some 8, .int .i64 u), (some 9, .int .i64 (cmpI t u)), (some 10, .pointer (some ⟨w.heap.size, 0, none⟩)), (some 11, .int .i64 i), (some 12, .pointer (some ⟨w.heap.size + 1, 0, none⟩)), (some 13, .int .i64 j), (some 14, .int .i64 (cmpI i j)), (some 15, .slice (some ⟨w.heap.size + 2, 0, none⟩) 2 2), (some 16, .int .i64 (pick2 (cmpI t u) (cmpI i j))), (some 4, .int .i64 (pick2 (cmpI t u) (cmpI i j)))]) [some 5, some 6, some 7, some 8, some 9, some 10, some 11, some 12, some 13, some 14, some 15, some 16, some 4] rfl (fun listed hsz hr => Ord.all_listedC (rank := [0, 1, 2, 3, 4, 5, 6, 7, 8, 9, 10, 11, 12]) (by kernel_rfl) hsz hr) (by rfl) (fun _ => rfl) (by kernel_rfl) (Rg.StM [10] (fun k _ w' => OrdA w i t j u (cmpI t u) (cmpI i j) k w')) (fun _ _ _ _ hL h => h.ext (n := 13) (by decide) hL) ?_ ?_ () ?_
  case refine_1 =>
    intro x Lq iq oq ac w' ho hi hcl hdep hF hW
    have f1 : ac.tmps.size = 17 := hF.1
    match iq, ho, hi, hdep with
    | 0, ho, hi, hdep =>
      cases ho
      have da0 : ac.eval (.tmp 2) = .pointer (some ⟨w.heap.size, 0, none⟩) := hF.old 2 rfl
      exact Ord.ex_value x rfl rfl (Rg.fa da0 rfl (by simp [go_sem])) rfl (hW.keep (by decide))
    | 1, ho, hi, hdep =>
      cases ho
      have da0 : ac.eval (.tmp 5) = .pointer (some ⟨w.heap.size, 1, none⟩) := hF.2.2.2 0 5 _ rfl (hdep ⟨0, .data⟩ (by simp) rfl)
      obtain ⟨kq, hlo, hhi, hA⟩ := hW.range 0 0 (.inl rfl) (.inr ⟨10, rfl, (Rg.no_of (fun h => hcl 4 _ rfl (hcl 10 _ rfl (h) ⟨4, .data⟩ (by simp) rfl) ⟨1, .data⟩ (by simp) rfl) hi)⟩)
      exact Ord.ex_value x rfl rfl (Rg.load da0 rfl (by simp [go_sem, hA.1])) rfl (hW.keep (by decide))
    | 2, ho, hi, hdep =>
      cases ho
      have da0 : ac.eval (.tmp 3) = .pointer (some ⟨w.heap.size + 1, 0, none⟩) := hF.old 3 rfl
      exact Ord.ex_value x rfl rfl (Rg.fa da0 rfl (by simp [go_sem])) rfl (hW.keep (by decide))
    | 3, ho, hi, hdep =>
      cases ho
      have da0 : ac.eval (.tmp 7) = .pointer (some ⟨w.heap.size + 1, 1, none⟩) := hF.2.2.2 2 7 _ rfl (hdep ⟨2, .data⟩ (by simp) rfl)
      obtain ⟨kq, hlo, hhi, hA⟩ := hW.range 0 0 (.inl rfl) (.inr ⟨10, rfl, (Rg.no_of (fun h => hcl 4 _ rfl (hcl 10 _ rfl (h) ⟨4, .data⟩ (by simp) rfl) ⟨3, .data⟩ (by simp) rfl) hi)⟩)
      exact Ord.ex_value x rfl rfl (Rg.load da0 rfl (by simp [go_sem, hA.2.2.1])) rfl (hW.keep (by decide))
    | 4, ho, hi, hdep =>
      cases ho
      have da0 : ac.eval (.tmp 6) = .int .i64 t := hF.2.2.2 1 6 _ rfl (hdep ⟨1, .data⟩ (by simp) rfl)
      have da1 : ac.eval (.tmp 8) = .int .i64 u := hF.2.2.2 3 8 _ rfl (hdep ⟨3, .data⟩ (by simp) rfl)
      obtain ⟨kq, hlo, hhi, hA⟩ := hW.range 0 0 (.inl rfl) (.inr ⟨10, rfl, (Rg.no_of (fun h => hcl 10 _ rfl (h) ⟨4, .data⟩ (by simp) rfl) hi)⟩)
      exact Rg.ex_call x rfl rfl (Rg.enter (args := #[.int .i64 t, .int .i64 u]) rfl rfl (by simp [da0, da1]) EC.out) (Calls.mono (C.out _ _ _) (by rintro e w2 ⟨rfl, rfl⟩; exact ⟨rfl, (hW.keep (by decide))⟩))
    | 5, ho, hi, hdep =>
      cases ho
      have da0 : ac.eval (.tmp 2) = .pointer (some ⟨w.heap.size, 0, none⟩) := hF.old 2 rfl
      exact Ord.ex_value x rfl rfl (Rg.fa da0 rfl (by simp [go_sem])) rfl (hW.keep (by decide))
    | 6, ho, hi, hdep =>
      cases ho
      have da0 : ac.eval (.tmp 10) = .pointer (some ⟨w.heap.size, 0, none⟩) := hF.2.2.2 5 10 _ rfl (hdep ⟨5, .data⟩ (by simp) rfl)
      obtain ⟨kq, hlo, hhi, hA⟩ := hW.range 0 0 (.inl rfl) (.inr ⟨10, rfl, (Rg.no_of (fun h => hcl 9 _ rfl (hcl 10 _ rfl (h) ⟨9, .data⟩ (by simp) rfl) ⟨6, .data⟩ (by simp) rfl) hi)⟩)
      exact Ord.ex_value x rfl rfl (Rg.load da0 rfl (by simp [go_sem, hA.2.1])) rfl (hW.keep (by decide))
    | 7, ho, hi, hdep =>
      cases ho
      have da0 : ac.eval (.tmp 3) = .pointer (some ⟨w.heap.size + 1, 0, none⟩) := hF.old 3 rfl
      exact Ord.ex_value x rfl rfl (Rg.fa da0 rfl (by simp [go_sem])) rfl (hW.keep (by decide))
    | 8, ho, hi, hdep =>
      cases ho
      have da0 : ac.eval (.tmp 12) = .pointer (some ⟨w.heap.size + 1, 0, none⟩) := hF.2.2.2 7 12 _ rfl (hdep ⟨7, .data⟩ (by simp) rfl)
      obtain ⟨kq, hlo, hhi, hA⟩ := hW.range 0 0 (.inl rfl) (.inr ⟨10, rfl, (Rg.no_of (fun h => hcl 9 _ rfl (hcl 10 _ rfl (h) ⟨9, .data⟩ (by simp) rfl) ⟨8, .data⟩ (by simp) rfl) hi)⟩)
      exact Ord.ex_value x rfl rfl (Rg.load da0 rfl (by simp [go_sem, hA.2.2.2.1])) rfl (hW.keep (by decide))
    | 9, ho, hi, hdep =>
      cases ho
      have da0 : ac.eval (.tmp 11) = .int .i64 i := hF.2.2.2 6 11 _ rfl (hdep ⟨6, .data⟩ (by simp) rfl)
      have da1 : ac.eval (.tmp 13) = .int .i64 j := hF.2.2.2 8 13 _ rfl (hdep ⟨8, .data⟩ (by simp) rfl)
      obtain ⟨kq, hlo, hhi, hA⟩ := hW.range 0 0 (.inl rfl) (.inr ⟨10, rfl, (Rg.no_of (fun h => hcl 10 _ rfl (h) ⟨9, .data⟩ (by simp) rfl) hi)⟩)
      exact Rg.ex_call x rfl rfl (Rg.enter (args := #[.int .i64 i, .int .i64 j]) rfl rfl (by simp [da0, da1]) EC.out) (Calls.mono (C.out _ _ _) (by rintro e w2 ⟨rfl, rfl⟩; exact ⟨rfl, (hW.keep (by decide))⟩))
    | 10, ho, hi, hdep =>
      cases ho
      have da0 : ac.eval (.tmp 9) = .int .i64 (cmpI t u) := hF.2.2.2 4 9 _ rfl (hdep ⟨4, .data⟩ (by simp) rfl)
      have da1 : ac.eval (.tmp 14) = .int .i64 (cmpI i j) := hF.2.2.2 9 14 _ rfl (hdep ⟨9, .data⟩ (by simp) rfl)
      have hA := hW.at (k := 0) rfl hi (.inl rfl)
      have hw := hA.2.2.2.2.1 rfl
      subst hw
      exact Ord.ex_value x rfl rfl (Rg.bsl rfl (by simp [da0, da1]) (bs2 _ _ _)) (by simp [ordW]) (hW.next (k := 0) rfl (by decide) hi (.inl rfl) (ordA1 _ _ _ _ _ _ _))
    | 11, ho, hi, hdep =>
      cases ho
      have da0 : ac.eval (.tmp 15) = .slice (some ⟨w.heap.size + 2, 0, none⟩) 2 2 := hF.2.2.2 10 15 _ rfl (hdep ⟨10, .data⟩ (by simp) rfl)
      obtain ⟨kq, hlo, hhi, hA⟩ := hW.range 1 1 (.inr ⟨10, rfl, (hdep ⟨10, .data⟩ (by simp) rfl)⟩) (.inl rfl)
      have hw := hA.2.2.2.2.2 hlo
      subst hw
      exact Rg.ex_call x rfl rfl (Rg.enter (args := #[.slice (some ⟨w.heap.size + 2, 0, none⟩) 2 2]) rfl rfl (by simp [da0]) EO.out) (Calls.mono (or2 (b := w.heap.size + 2) (ord_c0 _ _ _ _ _ _ _) (ord_c1 _ _ _ _ _ _ _)) (by rintro e w2 ⟨rfl, rfl⟩; exact ⟨rfl, (hW.keep (by decide))⟩))
    | 12, ho, hi, hdep =>
      cases ho
      have da0 : ac.eval (.tmp 16) = .int .i64 (pick2 (cmpI t u) (cmpI i j)) := hF.2.2.2 11 16 _ rfl (hdep ⟨11, .data⟩ (by simp) rfl)
      exact Ord.ex_value x rfl rfl (Rg.asg da0 rfl) rfl (hW.keep (by decide))
  case refine_2 =>
    intro x w' hW
    have hw := hW.last.2.2.2.2.2 (by decide)
    subst hw
    simp only [Ord.puts, Ord.prs]
    go_simp
    go_wp2
    go_ret
    refine ⟨rfl, 1, #[.cells #[.int .i64 i, .int .i64 t] 43, .cells #[.int .i64 j, .int .i64 u] 43, .cells #[.int .i64 (cmpI t u), .int .i64 (cmpI i j)] 3], ?_⟩
    simp [ordW, alloc_eq_grow, grow_grow, World.drewN]
    rfl
  case refine_3 => exact Rg.StM.first (ordA0 _ _ _ _ _ _ _)
end Go.Proofs.Ytinhhfnknlmdgaa.Tm
