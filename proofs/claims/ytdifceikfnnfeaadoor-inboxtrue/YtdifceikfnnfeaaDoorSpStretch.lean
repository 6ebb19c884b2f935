/-
  How far marks of a ring are alike: bits.TrailingZeros64 and (marks).stretch.
  Conditions: the table of math/bits holds its sixty-four numbers; somewhere ahead a mark is not alike.
-/
import Derived.Test.YtdifceikfnnfeaaDoorSpMem
namespace Go.Proofs.YtdifceikfnnfeaaDoor.Sp
open Go.ChangeShapes Go.WideShapes Go.ChangeAt Go.RowKit
set_option linter.unusedVariables false

def tab64 : List Int := [0, 1, 56, 2, 57, 49, 28, 3, 61, 58, 42, 50, 38, 29, 17, 4, 62, 47, 59, 36, 45, 43, 51, 22, 53, 39, 33, 30, 24, 18, 12, 5, 63, 55, 48, 27, 60, 41, 37, 16, 46, 35, 44, 21, 52, 32, 23, 11, 54, 26, 40, 15, 34, 20, 31, 10, 25, 14, 19, 9, 13, 8, 7, 6]
/-- the program's table stands in block 0 -/
def Tab (w : World) : Prop := ∀ i : Nat, i < 64 → w.cell? ⟨0, i, none⟩ = some (.int .u8 (tab64.getD i 0))
theorem Tab.pos {w : World} (h : Tab w) : 0 < w.heap.size := World.block_lt_of_cell? w ⟨0, 0, none⟩ (h 0 (by decide))
theorem Tab.grown {w w' : World} {b : Nat} (h : Tab w) (hg : w.grownBy w' (some b)) (hb : b ≠ 0) : Tab w' := fun i hi =>
  (World.cell?_of_block (a := ⟨0, i, none⟩) (hg.block 0 h.pos (by intro e; cases e; exact hb rfl))).trans (h i hi)
theorem Tab.grown0 {w w' : World} (h : Tab w) (hg : w.grownBy w' none) : Tab w' := fun i hi =>
  (World.cell?_of_block (a := ⟨0, i, none⟩) (hg.block 0 h.pos (by intro e; cases e))).trans (h i hi)
theorem Tab.below {w w' : World} {B : Nat} (h : Tab w) (hB : Below B w w') (h0 : 0 < B) : Tab w' := fun i hi => (hB.cell (p := ⟨0, i, none⟩) h0).trans (h i hi)

/-- the lowest bit alone -/
theorem low_bit (t m : Nat) (h : 2 ^ t * (2 * m + 1) < 2 ^ 64) : (2 ^ t * (2 * m + 1)) &&& (2 ^ 64 - 2 ^ t * (2 * m + 1)) = 2 ^ t := by
  have hp : 0 < 2 ^ t := Nat.two_pow_pos t
  have e1 : 2 ^ t * (2 * m + 1) = (2 ^ t * (2 * m) + (2 ^ t - 1)) + 1 := by rw [Nat.mul_add]; omega
  have ht : t < 64 := by
    refine Nat.lt_of_not_le fun hle => ?_
    have : 2 ^ 64 ≤ 2 ^ t := Nat.pow_le_pow_right (by decide) hle
    have : 2 ^ t ≤ 2 ^ t * (2 * m + 1) := Nat.le_mul_of_pos_right _ (by omega)
    omega
  refine Nat.eq_of_testBit_eq fun i => ?_
  have e2 : (2 ^ 64 - 2 ^ t * (2 * m + 1)).testBit i = (decide (i < 64) && !(2 ^ t * (2 * m) + (2 ^ t - 1)).testBit i) := by
    rw [e1, Nat.testBit_two_pow_sub_succ (by omega)]
  rw [Nat.testBit_and, e2, Nat.testBit_two_pow_mul_add _ (by omega), Nat.testBit_two_pow_sub_one, Nat.testBit_two_pow]
  rw [show 2 ^ t * (2 * m + 1) = 2 ^ t * (2 * m + 1) + 0 from rfl, Nat.testBit_two_pow_mul_add _ hp]
  by_cases h1 : i < t
  · simp [h1]; omega
  · simp only [if_neg h1]
    by_cases h2 : i = t
    · subst h2; simp [ht]
    · obtain ⟨k, hk⟩ : ∃ k, i - t = k + 1 := ⟨i - t - 1, by omega⟩
      rw [hk, Nat.testBit_succ, Nat.testBit_succ]
      rw [show (2 * m + 1) / 2 = m by omega, show 2 * m / 2 = m by omega]
      have : ¬ t = i := fun e => h2 e.symm
      simp [this]
      intro h3 _; exact h3

theorem bruijn (t : Nat) (ht : t < 64) : 2 ^ t * 285870213051353865 % 18446744073709551616 / 288230376151711744 < 64 ∧ tab64.getD (2 ^ t * 285870213051353865 % 18446744073709551616 / 288230376151711744) 0 = (t : Int) := by
  have h : ∀ t : Fin 64, 2 ^ t.val * 285870213051353865 % 18446744073709551616 / 288230376151711744 < 64 ∧ tab64.getD (2 ^ t.val * 285870213051353865 % 18446744073709551616 / 288230376151711744) 0 = (t.val : Int) := by decide +kernel
  exact h ⟨t, ht⟩

theorem low_lt (x t m : Nat) (hx : x < 18446744073709551616) (e : x = 2 ^ t * (2 * m + 1)) : t < 64 := by
  refine Nat.lt_of_not_le fun hle => ?_
  have h1 : 2 ^ 64 ≤ 2 ^ t := Nat.pow_le_pow_right (by decide) hle
  have h2 : 2 ^ t ≤ 2 ^ t * (2 * m + 1) := Nat.le_mul_of_pos_right _ (by omega)
  rw [← e] at h2
  exact absurd (Nat.lt_of_le_of_lt (Nat.le_trans h1 h2) hx) (by decide)
theorem neg64 (x : Nat) (h0 : 0 < x) (hx : x < 18446744073709551616) : IntKind.u64.wrap (-(x : Int)) = ((18446744073709551616 - x : Nat) : Int) := by
  have h : ∀ n : Int, IntKind.u64.wrap n = n % 18446744073709551616 := fun n => rfl
  rw [h]; omega
theorem low64 (x t m : Nat) (hx : x < 18446744073709551616) (h0 : 0 < x) (e : x = 2 ^ t * (2 * m + 1)) : bits BinOp.and IntKind.u64 (x : Int) (IntKind.u64.wrap (-(x : Int))) = ((2 ^ t : Nat) : Int) := by
  rw [neg64 x h0 hx, u64_and_nat _ _ hx (by omega), e]
  congr 1
  exact low_bit t m (by rw [← e]; exact hx)
theorem mul64 (q : Nat) : IntKind.u64.wrap ((q : Int) * 285870213051353865) / 288230376151711744 = ((q * 285870213051353865 % 18446744073709551616 / 288230376151711744 : Nat) : Int) := by
  have h : ∀ n : Int, IntKind.u64.wrap n = n % 18446744073709551616 := fun n => rfl
  rw [h]; omega

theorem trailing0 (x i : Nat) (q : Int) (t : Nat) (ht : t < 64) (h0 : 0 < x) (hi : i < 64) (w : World) (hb : bits BinOp.and IntKind.u64 (x : Int) (IntKind.u64.wrap (-(x : Int))) = q) (h1 : IntKind.u64.wrap (q * 285870213051353865) / 288230376151711744 = (i : Int)) (hcell : w.cell? ⟨0, i, none⟩ = some (.int .u8 (t : Int))) :
    Calls Tryd.prog 82 #[.int .u64 (x : Int)] w fun e w' => e = .returned (.int .i64 (t : Int)) ∧ w = w' := by
  go_enter Tryd.func82, Tryd.ntmps82
  go_wp2
  go_ret
  exact Ser.fin_int rfl

theorem trailing (x t m : Nat) (hx : x < 18446744073709551616) (e : Hid (x = 2 ^ t * (2 * m + 1))) (h0 : 0 < x) (w : World) (hT : Tab w) :
    Calls Tryd.prog 82 #[.int .u64 (x : Int)] w fun e w' => e = .returned (.int .i64 (t : Int)) ∧ w = w' := by
  have ht := low_lt x t m hx e.out
  obtain ⟨hi, hv⟩ := bruijn t ht
  have hcell := hT _ hi
  rw [hv] at hcell
  exact trailing0 x _ _ t ht h0 hi w (low64 x t m hx h0 e.out) (mul64 (2 ^ t)) hcell

/-- where the first bit stands -/
theorem first_bit (x : Nat) (h : 0 < x) : ∃ t m, x = 2 ^ t * (2 * m + 1) := by
  induction x using Nat.strongRecOn with
  | _ x ih =>
    by_cases h2 : x % 2 = 1
    · exact ⟨0, x / 2, by simp; omega⟩
    · obtain ⟨t, m, e⟩ := ih (x / 2) (by omega) (by omega)
      exact ⟨t + 1, m, by rw [Nat.pow_succ, show 2 ^ t * 2 * (2 * m + 1) = 2 * (2 ^ t * (2 * m + 1)) by rw [Nat.mul_comm (2 ^ t) 2, Nat.mul_assoc], ← e]; omega⟩
theorem bit_low (t m i : Nat) (h : i < t) : (2 ^ t * (2 * m + 1)).testBit i = false := by
  rw [show 2 ^ t * (2 * m + 1) = 2 ^ t * (2 * m + 1) + 0 from rfl, Nat.testBit_two_pow_mul_add _ (Nat.two_pow_pos t), if_pos h]; simp
theorem bit_at (t m : Nat) : (2 ^ t * (2 * m + 1)).testBit t = true := by
  rw [show 2 ^ t * (2 * m + 1) = 2 ^ t * (2 * m + 1) + 0 from rfl, Nat.testBit_two_pow_mul_add _ (Nat.two_pow_pos t), if_neg (by omega)]; simp

/-- what is left of a word: bits that are not alike -/
def rest (r : Nat) (a : Bool) (j : Nat) : Nat := (if a then 18446744073709551615 - r else r) / 2 ^ j
theorem rest_lt (r : Nat) (hr : r < 18446744073709551616) (a : Bool) (j : Nat) : rest r a j < 18446744073709551616 := by
  unfold rest
  refine Nat.lt_of_le_of_lt (Nat.div_le_self _ _) ?_
  split <;> omega
theorem rest_bit (r : Nat) (hr : r < 18446744073709551616) (a : Bool) (j k : Nat) (h : j + k < 64) : (rest r a j).testBit k = (r.testBit (j + k) != a) := by
  unfold rest
  rw [Nat.testBit_div_two_pow, Nat.add_comm k j]
  cases a
  · simp
  · simp only [if_true]
    rw [show 18446744073709551615 - r = 2 ^ 64 - (r + 1) by omega, Nat.testBit_two_pow_sub_succ hr, decide_eq_true h]
    simp
theorem rest_far (r : Nat) (hr : r < 18446744073709551616) (a : Bool) (j k : Nat) (h : 64 ≤ j + k) : (rest r a j).testBit k = false := by
  unfold rest
  rw [Nat.testBit_div_two_pow, Nat.add_comm k j]
  refine Nat.testBit_lt_two_pow (Nat.lt_of_lt_of_le (?_ : _ < 2 ^ 64) (Nat.pow_le_pow_right (by decide) h))
  split <;> omega

/-- one word: either the first that is not alike stands in it, or none -/
theorem word_step (R : Nat → Nat) (hR : Fits R) (a : Bool) (p k : Nat) (hp : p < 65536) (h1 : ∀ i, i < k → mk R ((p + i) % 65536) = a) (h2 : mk R ((p + k) % 65536) = !a) :
    (0 < rest (R (p / 64)) a (p % 64) → ∃ m, rest (R (p / 64)) a (p % 64) = 2 ^ k * (2 * m + 1)) ∧ (rest (R (p / 64)) a (p % 64) = 0 → 64 - p % 64 ≤ k) := by
  have hw : ∀ i, p % 64 + i < 64 → (rest (R (p / 64)) a (p % 64)).testBit i = (mk R ((p + i) % 65536) != a) := by
    intro i hi
    rw [rest_bit _ (hR _) _ _ _ hi]
    unfold mk
    rw [show (p + i) % 65536 = p + i by omega, show (p + i) / 64 = p / 64 by omega, show (p + i) % 64 = p % 64 + i by omega]
  refine ⟨fun h0 => ?_, fun h0 => ?_⟩
  · obtain ⟨t, m, e⟩ := first_bit _ h0
    refine ⟨m, ?_⟩
    suffices t = k by subst this; exact e
    have ht := bit_at t m
    rw [← e] at ht
    have ht64 : p % 64 + t < 64 := by
      refine Nat.lt_of_not_le fun hle => ?_
      rw [rest_far _ (hR _) _ _ _ hle] at ht; cases ht
    rw [hw t ht64] at ht
    rcases Nat.lt_trichotomy t k with h | h | h
    · rw [h1 t h] at ht; simp at ht
    · exact h
    · have hl := bit_low t m k h
      rw [← e, hw k (by omega), h2] at hl
      simp at hl
  · refine Nat.le_of_not_lt fun hlt => ?_
    have := hw k (by omega)
    rw [h0, h2] at this
    simp at this

theorem placeI (n : Int) (T : Nat) (e : n = (T : Int)) (hn : T < 4294967296) {i j : Nat} (H : Hid (T % 65536 / 64 = i ∧ T % 65536 % 64 = j)) (w : World) :
    Calls Tryd.prog 80 #[.int .u32 n] w fun e w' => e = .returned (.tuple #[.int .i64 (i : Int), .int .i64 (j : Int)]) ∧ w = w' := by
  subst e; exact place' T hn H w
theorem not64 (r : Nat) (hr : r < 18446744073709551616) : bits BinOp.xor IntKind.u64 IntKind.u64.max (r : Int) = ((18446744073709551615 - r : Nat) : Int) := by
  rw [show IntKind.u64.max = ((18446744073709551615 : Nat) : Int) from rfl, u64_xor_nat _ _ (by decide) hr]
  congr 1
  refine Nat.eq_of_testBit_eq fun i => ?_
  rw [show 18446744073709551615 - r = 2 ^ 64 - (r + 1) by omega, Nat.testBit_two_pow_sub_succ hr, Nat.testBit_xor, show (18446744073709551615 : Nat) = 2 ^ 64 - 1 from rfl, Nat.testBit_two_pow_sub_one]
  by_cases h : i < 64
  · rw [decide_eq_true h]; simp
  · rw [decide_eq_false h, Nat.testBit_lt_two_pow (Nat.lt_of_lt_of_le (hr : r < 2 ^ 64) (show 2 ^ 64 ≤ 2 ^ i from Nat.pow_le_pow_right (by decide) (by omega)))]; rfl
theorem shr64 (x j : Nat) : (x : Int) / 2 ^ j = ((x / 2 ^ j : Nat) : Int) := by simp

set_option maxRecDepth 20000 in
theorem stretch (f : Nat) (hf : f < 4294967296) (a : Bool) (k : Nat) (hk : k < 65536) (w : World) {b c : Nat} {R : Nat → Nat} {cnt : Int} {made : Bool} (hA : At w b R cnt made c) (hR : Fits R) (hT : Tab w)
    (h1 : ∀ i, i < k → mk R ((f + i) % 65536) = a) (h2 : mk R ((f + k) % 65536) = !a) :
    Calls Tryd.prog 75 #[.pointer (some ⟨b, 0, none⟩), .int .u32 (f : Int), .bool a] w fun e w' => e = .returned (.int .i64 (k : Int)) ∧ w = w' := by
  go_enter Tryd.func75, Tryd.ntmps75
  go_wp2
  go_loop [7] (fun v => ∃ l : Int, 0 ≤ l ∧ l ≤ (k : Int) ∧ v = .int .i64 l) (fun v => k - (intOf v).toNat)
  case atStart => exact ⟨0, Int.le_refl _, by omega, rfl⟩
  case round =>
    obtain ⟨l, hl0, hl, rfl⟩ := hrel
    obtain ⟨T, HT⟩ : ∃ T : Nat, Hid ((T : Int) = ((f : Int) + l) % 4294967296) := ⟨(f + l.toNat) % 4294967296, show _ = _ by omega⟩
    have hstep := word_step R hR a ((f + l.toNat) % 65536) (k - l.toNat) (by omega) (fun i hi => by rw [← h1 (l.toNat + i) (by omega)]; congr 1; omega) (by rw [← h2]; congr 1; omega)
    have hTl : T < 4294967296 := by have := HT.out; omega
    obtain ⟨i, j, hi, hj, H⟩ := letters T
    rw [show (f + l.toNat) % 65536 = T % 65536 by have := HT.out; omega, H.out.1, H.out.2] at hstep
    have hcell := hA.ring i hi
    have hri := hR i
    have hlt : l < 65536 := by omega
    have HST : Hid _ := hstep
    clear hstep h1 h2
    have HK : Hid (l ≤ (k : Int) ∧ k < 65536) := ⟨hl, hk⟩
    clear hl hk
    go_wp2_with fail
    refine (placeI _ T (by have := HT.out; omega) hTl H _).mono ?_
    rintro e w' ⟨rfl, rfl⟩
    generalize R i = r at hcell hri HST
    have hx := rest_lt r hri a j
    cases a
    · have he : ((r : Int) / 2 ^ j) = ((rest r false j : Nat) : Int) := shr64 _ _
      generalize rest r false j = x at hx he HST
      by_cases h0 : x = 0
      · subst h0
        go_wp2
        go_round
        case rel => have h64 := HST.out.2 (by trivial); have := HK.out; exact ⟨_, by omega, by omega, rfl⟩
        case measure => have h64 := HST.out.2 (by trivial); have := HK.out; simp only [intOf]; omega
      · obtain ⟨m, hm⟩ : ∃ m, Hid (x = 2 ^ (k - l.toNat) * (2 * m + 1)) := HST.out.1 (by omega)
        have hp : 0 < x := by omega
        have hxx : ((x : Int) == 0) = false := by simp; omega
        clear HST
        go_wp2_with fail
        refine (trailing x (k - l.toNat) m hx hm hp _ hT).mono ?_
        rintro e w' ⟨rfl, rfl⟩
        clear hm
        have hkk := HK.out
        obtain ⟨y, hy, hy2⟩ : ∃ y : Int, (((k - l.toNat : Nat) : Int) = y) ∧ Hid (l + y = k) := ⟨_, rfl, show _ = _ by omega⟩
        rw [hy]
        have hyb : 0 ≤ y ∧ y < 65536 := by omega
        clear hy hkk
        go_wp2
        go_ret
        exact Ser.fin_int hy2.out
    · have hsg : IntKind.u64.signed = false := rfl
      have hnn := not64 r hri
      have he : (((18446744073709551615 - r : Nat) : Int) / 2 ^ j) = ((rest r true j : Nat) : Int) := shr64 _ _
      generalize ((18446744073709551615 - r : Nat) : Int) = nr at hnn he
      generalize rest r true j = x at hx he HST
      by_cases h0 : x = 0
      · subst h0
        go_wp2
        go_round
        case rel => have h64 := HST.out.2 (by trivial); have := HK.out; exact ⟨_, by omega, by omega, rfl⟩
        case measure => have h64 := HST.out.2 (by trivial); have := HK.out; simp only [intOf]; omega
      · obtain ⟨m, hm⟩ : ∃ m, Hid (x = 2 ^ (k - l.toNat) * (2 * m + 1)) := HST.out.1 (by omega)
        have hp : 0 < x := by omega
        have hxx : ((x : Int) == 0) = false := by simp; omega
        clear HST
        go_wp2_with fail
        refine (trailing x (k - l.toNat) m hx hm hp _ hT).mono ?_
        rintro e w' ⟨rfl, rfl⟩
        clear hm
        have hkk := HK.out
        obtain ⟨y, hy, hy2⟩ : ∃ y : Int, (((k - l.toNat : Nat) : Int) = y) ∧ Hid (l + y = k) := ⟨_, rfl, show _ = _ by omega⟩
        rw [hy]
        have hyb : 0 ≤ y ∧ y < 65536 := by omega
        clear hy hkk
        go_wp2
        go_ret
        exact Ser.fin_int hy2.out
end Go.Proofs.YtdifceikfnnfeaaDoor.Sp
