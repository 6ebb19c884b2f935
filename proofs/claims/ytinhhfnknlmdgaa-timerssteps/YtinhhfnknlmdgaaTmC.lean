/-
  The smallest functions of a heap of timers and of a table: which numbers and times may be, which of two items is ahead, how many there are, the first one, one by its number.
  Conditions: the heap lies in memory.
-/
import Derived.Test.YtinhhfnknlmdgaaTmB
import Derived.Deep.QuietTactic
import Derived.BigQuiet
import Derived.Laws.ResultCell
import Derived.Carry
namespace Go.Proofs.Ytinhhfnknlmdgaa.Tm
open Go.ChangeShapes Go.WideShapes Go.ChangeAt Go.RowKit Go.Sort
open Ba (hidden Only In Has own_ne own_stay own_len own_some own_mono cell_lt heap_lt)
set_option linter.unusedVariables false

/-- may it be a number? a time? -/
def okId (x : Int) : Bool := decide (0 ≤ x ∧ x < 4096)
def okTime (x : Int) : Bool := decide (0 ≤ x ∧ x ≤ 1099511627776)
theorem isNumber (x : Int) (w : World) : Calls Try.prog 31 #[.int .i64 x] w fun e w' => e = .returned (.bool (okId x)) ∧ w = w' := by
  go_enter Try.func31, Try.ntmps31
  go_wp2
  all_goals go_ret
  all_goals (refine ⟨congrArg Ending.returned (congrArg Value.bool ?_), rfl⟩; unfold okId)
  all_goals (first | (symm; apply decide_eq_true; omega) | (symm; apply decide_eq_false; omega) | (rw [Bool.eq_iff_iff]; simp; omega))
theorem isTime (x : Int) (w : World) : Calls Try.prog 32 #[.int .i64 x] w fun e w' => e = .returned (.bool (okTime x)) ∧ w = w' := by
  go_enter Try.func32, Try.ntmps32
  go_wp2
  all_goals go_ret
  all_goals (refine ⟨congrArg Ending.returned (congrArg Value.bool ?_), rfl⟩; unfold okTime)
  all_goals (first | (symm; apply decide_eq_true; omega) | (symm; apply decide_eq_false; omega) | (rw [Bool.eq_iff_iff]; simp; omega))
theorem rID (x : Int) (w : World) : Calls Try.prog 11 #[.int .i64 x] w fun e w' => e = .returned (.bool (okId x)) ∧ w = w' := by
  go_enter Try.func11, Try.ntmps11
  go_wp2
  all_goals go_ret
  all_goals (refine ⟨congrArg Ending.returned (congrArg Value.bool ?_), rfl⟩; unfold okId)
  all_goals (first | (symm; apply decide_eq_true; omega) | (symm; apply decide_eq_false; omega) | (rw [Bool.eq_iff_iff]; simp; omega))
theorem rTime (x : Int) (w : World) : Calls Try.prog 15 #[.int .i64 x] w fun e w' => e = .returned (.bool (okTime x)) ∧ w = w' := by
  go_enter Try.func15, Try.ntmps15
  go_wp2
  all_goals go_ret
  all_goals (refine ⟨congrArg Ending.returned (congrArg Value.bool ?_), rfl⟩; unfold okTime)
  all_goals (first | (symm; apply decide_eq_true; omega) | (symm; apply decide_eq_false; omega) | (rw [Bool.eq_iff_iff]; simp; omega))
theorem size {w : World} {b m n : Nat} {v : Value} {X : List D} {f : Int → Option Int} (h : Hp w b v m X f n) : Calls Try.prog 36 #[.pointer (some ⟨b, 0, none⟩)] w fun e w' => e = .returned (.int .i64 X.length) ∧ w = w' := by
  obtain ⟨a, cap, rfl⟩ := own_len h.2.1
  have c0 := h.1.cell 0 rfl
  clear h
  go_enter Try.func36, Try.ntmps36
  go_wp2
  go_ret
  exact ⟨rfl, rfl⟩
/-- the first item, if there is one -/
def fstV (X : List D) : Value := .tuple #[dv (at_ X 0), .bool (decide (0 < X.length))]
theorem first {w : World} {b m n : Nat} {v : Value} {X : List D} {f : Int → Option Int} (h : Hp w b v m X f n) : Calls Try.prog 35 #[.pointer (some ⟨b, 0, none⟩)] w fun e w' => e = .returned (fstV X) ∧ Below w.heap.size w w' := by
  have hb := h.1.lt
  by_cases h0 : 0 < X.length
  · obtain ⟨g, cap, rfl, hg, _⟩ := h.2.1.get h0
    have c0 := h.1.cell 0 rfl
    obtain ⟨c1, c2, _⟩ := h.2.1.cell h0
    simp only [Nat.zero_mul, Nat.zero_add] at c1 c2
    have hl : (0 : Int) < (X.length : Int) := by omega
    have hl2 : ((X.length : Int) == 0) = false := beq_eq_false_iff_ne.2 (by omega)
    rw [show fstV X = .tuple #[dv (at_ X 0), .bool true] by unfold fstV; rw [decide_eq_true h0]]
    unfold dv
    generalize at_ X 0 = d at c1 c2 ⊢
    generalize X.length = l at *
    clear h
    go_enter Try.func35, Try.ntmps35
    go_wp2
    refine bodyPost_ret (v := .tuple #[.agg #[.int .i64 d.1, .int .i64 d.2], .bool true]) (by rw [results_cell_tmp rfl]; go_simp) rfl ⟨rfl, ?_⟩
    exact (Below.refl _ w).alloc (Nat.le_refl _) _
  · obtain ⟨a, cap, rfl⟩ := own_len h.2.1
    have e0 : X = [] := List.eq_nil_of_length_eq_zero (by omega)
    subst e0
    have c0 := h.1.cell 0 rfl
    clear h
    rw [show fstV [] = .tuple #[.agg #[.int .i64 0, .int .i64 0], .bool false] from rfl]
    simp only [List.length_nil] at c0
    go_enter Try.func35, Try.ntmps35
    go_wp2
    refine bodyPost_ret (v := .tuple #[.agg #[.int .i64 0, .int .i64 0], .bool false]) (by rw [results_cell_tmp rfl]; go_simp) rfl ⟨rfl, ?_⟩
    exact (Below.refl _ w).alloc (Nat.le_refl _) _
/-- a number's item -/
def lkV (f : Int → Option Int) (X : List D) (k : Int) : Value := .tuple #[dv ((f k).elim (0, 0) fun v => at_ X v.toNat), .bool (f k).isSome]
theorem find {w : World} {b m n : Nat} {v : Value} {X : List D} {f : Int → Option Int} (h : Hp w b v m X f n) (hp : Posn f X) {k : Int} (hk : I64 k) : Calls Try.prog 38 #[.pointer (some ⟨b, 0, none⟩), .int .i64 k] w fun e w' => e = .returned (lkV f X k) ∧ Below w.heap.size w w' := by
  have hb := h.1.lt
  have hm := h.2.2.lt
  have c1 := h.1.cell 1 rfl
  have c0 := h.1.cell 0 rfl
  have hA := (h.2.2.stay (Only.alloc [] w (.cells #[.int .i64 0, .int .i64 0] 43)) (by simp))
  have hr := mp_look hA hk
  cases hf : f k with
  | none =>
    rw [hf] at hr
    simp only [Option.getD_none, Option.isSome_none] at hr
    rw [show lkV f X k = .tuple #[.agg #[.int .i64 0, .int .i64 0], .bool false] by unfold lkV; rw [hf]; rfl]
    clear hf h hA
    go_enter Try.func38, Try.ntmps38
    go_wp2
    refine bodyPost_ret (v := .tuple #[.agg #[.int .i64 0, .int .i64 0], .bool false]) (by rw [results_cell_tmp rfl]; go_simp) rfl ⟨rfl, ?_⟩
    exact (Below.refl _ w).alloc (Nat.le_refl _) _
  | some u =>
    obtain ⟨g1, g2, g3⟩ := hp.2 k u hf
    obtain ⟨g, cap, rfl, hg, _⟩ := h.2.1.get g2
    obtain ⟨d1, d2, _⟩ := h.2.1.cell g2
    rw [hf] at hr
    simp only [Option.getD_some, Option.isSome_some] at hr
    rw [show lkV f X k = .tuple #[.agg #[.int .i64 (at_ X u.toNat).1, .int .i64 (at_ X u.toNat).2], .bool true] by unfold lkV; rw [hf]; rfl]
    have hu : u < (X.length : Int) := by omega
    generalize at_ X u.toNat = d at d1 d2 ⊢
    generalize X.length = l at *
    clear hf h hA g2 g3 hp
    go_enter Try.func38, Try.ntmps38
    go_wp2
    refine bodyPost_ret (v := .tuple #[.agg #[.int .i64 d.1, .int .i64 d.2], .bool true]) (by rw [results_cell_tmp rfl]; go_simp) rfl ⟨rfl, ?_⟩
    exact (Below.refl _ w).alloc (Nat.le_refl _) _
/-- a table that nobody made -/
def Nobody (w : World) (p : Option Addr) : Prop := p = none ∨ ∃ b l, p = some ⟨b, 0, none⟩ ∧ w.cell? ⟨b, 0, none⟩ = some (.pointer none) ∧ w.cell? ⟨b, 1, none⟩ = some (.int .i64 l)
theorem unmadeN {w : World} {p : Option Addr} (h : Nobody w p) : Calls Try.prog 30 #[.pointer p] w fun e w' => e = .returned (.bool true) ∧ w = w' := by
  rcases h with rfl | ⟨b, l, rfl, hc, _⟩
  · go_enter Try.func30, Try.ntmps30
    go_wp2
    go_ret
    exact ⟨rfl, rfl⟩
  · go_enter Try.func30, Try.ntmps30
    go_wp2
    go_ret
    exact ⟨rfl, rfl⟩
theorem unmade {w : World} {b h : Nat} (hc : w.cell? ⟨b, 0, none⟩ = some (.pointer (some ⟨h, 0, none⟩))) : Calls Try.prog 30 #[.pointer (some ⟨b, 0, none⟩)] w fun e w' => e = .returned (.bool false) ∧ w = w' := by
  go_enter Try.func30, Try.ntmps30
  go_wp2
  go_ret
  exact ⟨rfl, rfl⟩
/-- a new heap, a new table -/
theorem newHeap (w : World) : Calls Try.prog 21 #[fkey, ford] w fun e w' => e = .returned (.pointer (some ⟨w.heap.size + 1, 0, none⟩)) ∧ Hp w' (w.heap.size + 1) (.slice none 0 0) w.heap.size [] (fun _ => none) 0 ∧ Below w.heap.size w w' ∧ w'.heap.size = w.heap.size + 2 := by
  unfold fkey ford
  go_enter Try.func21, Try.ntmps21
  have hmk := run_makeMap (P := Try.prog) 64 w
  go_wp2
  go_ret
  refine ⟨rfl, ⟨?_, World.ownsRow_nil _ _ _ _, ?_⟩, ((Below.refl _ w).alloc (Nat.le_refl _) _).alloc (by simp) _, by simp⟩
  · have := Has.new (w.alloc (.map #[] 0)) #[.slice none 0 0, .map (some w.heap.size), fkey, ford] 66
    rw [World.size_alloc] at this
    exact this
  · exact (mp_made w).stay (Only.alloc [] _ _) (by simp)
end Go.Proofs.Ytinhhfnknlmdgaa.Tm
