/-
  The remainder and the sum of bytes as plain functions on numbers, and what the document says of them: in nibbles, over parts, laid on one another, and that a burst of 32 bits is found.
  Conditions: none beyond those at each lemma.
-/
import Derived.WalkKit
import Derived.ProofKit
import Derived.Laws.BitsAllLaws
namespace Go.Proofs.YtfibmpconfoieaaDoor.Crc
set_option linter.unusedVariables false

/-- one step of the remainder -/
def bit1 (r : Nat) : Nat := r / 2 ^^^ (if r % 2 = 1 then 2197175160 else 0)
/-- so many steps -/
def iter : Nat → Nat → Nat
  | 0, r => r
  | k + 1, r => iter k (bit1 r)
/-- the steps of a nibble, as they stand in the program's table -/
def tab : List Int := [0, 274646895, 549293790, 820201905, 1098587580, 1361435347, 1640403810, 1905808397, 2197175160, 2460548119, 2722870694, 2987750089, 3280807620, 3553878443, 3811616794, 4084100981]
def nib (r : Nat) : Nat := r / 16 ^^^ (tab.getD (r % 16) 0).toNat
/-- the remainder of bytes from r -/
def rem (r : Nat) (zs : List Int) : Nat := zs.foldl (fun r z => iter 8 (r ^^^ z.toNat)) r
/-- the sum of bytes -/
def sum (zs : List Int) : Nat := rem 4294967295 zs ^^^ 4294967295
/-- bytes as one number, the first byte lowest -/
def num : List Int → Nat
  | [] => 0
  | z :: r => z.toNat + 256 * num r
/-- bytes -/
def Bytes (zs : List Int) : Prop := ∀ n ∈ zs, 0 ≤ n ∧ n < 256

theorem half_xor (a b : Nat) : (a ^^^ b) / 2 = a / 2 ^^^ b / 2 := by
  have := @Nat.shiftRight_xor_distrib 1 a b
  simpa [Nat.shiftRight_eq_div_pow] using this

theorem bit1_xor (a b : Nat) : bit1 (a ^^^ b) = bit1 a ^^^ bit1 b := by
  unfold bit1
  have e : (a ^^^ b) % 2 = a % 2 ^^^ b % 2 := Nat.xor_mod_two_pow (n := 1)
  rw [half_xor, e]
  have ha := Nat.mod_two_eq_zero_or_one a
  have hb := Nat.mod_two_eq_zero_or_one b
  rcases ha with ha | ha <;> rcases hb with hb | hb <;> rw [ha, hb] <;> simp
  · exact Nat.xor_assoc _ _ _
  · rw [Nat.xor_assoc, Nat.xor_assoc, Nat.xor_comm (b / 2)]
  · rw [Nat.xor_assoc, Nat.xor_comm 2197175160 (b / 2 ^^^ _), Nat.xor_assoc, Nat.xor_self, Nat.xor_zero]

theorem bit1_twice (x : Nat) : bit1 (2 * x) = x := by
  unfold bit1
  rw [if_neg (by omega), Nat.xor_zero]
  omega

theorem bit1_zero : bit1 0 = 0 := by decide

theorem bit1_lt (r : Nat) (h : r < 4294967296) : bit1 r < 4294967296 := by
  unfold bit1
  refine Nat.xor_lt_two_pow (n := 32) (by omega) ?_
  split <;> omega

theorem eq_of_xor (a b : Nat) (h : a ^^^ b = 0) : a = b := by
  have e := congrArg (fun t => t ^^^ b) h
  simpa [Nat.xor_assoc, Nat.xor_self] using e

theorem bit1_ne (r : Nat) (h : r < 4294967296) (h0 : r ≠ 0) : bit1 r ≠ 0 := by
  unfold bit1
  intro e
  have e2 := eq_of_xor _ _ e
  split at e2 <;> omega

theorem iter_xor (k : Nat) : ∀ a b, iter k (a ^^^ b) = iter k a ^^^ iter k b := by
  induction k with
  | zero => intro a b; rfl
  | succ k ih => intro a b; rw [iter, iter, iter, bit1_xor, ih]

theorem iter_add (a b : Nat) : ∀ r, iter (a + b) r = iter b (iter a r) := by
  induction a with
  | zero => intro r; rw [Nat.zero_add]; rfl
  | succ a ih => intro r; rw [Nat.add_right_comm, iter, ih, iter]

theorem iter_pow (k x : Nat) : iter k (x * 2 ^ k) = x := by
  induction k with
  | zero => simp [iter]
  | succ k ih => rw [iter, show x * 2 ^ (k + 1) = 2 * (x * 2 ^ k) by rw [Nat.pow_succ]; ac_rfl, bit1_twice, ih]

theorem iter_lt (k : Nat) : ∀ r, r < 4294967296 → iter k r < 4294967296 := by
  induction k with
  | zero => intro r h; exact h
  | succ k ih => intro r h; exact ih _ (bit1_lt r h)

theorem iter_ne (k : Nat) : ∀ r, r < 4294967296 → r ≠ 0 → iter k r ≠ 0 := by
  induction k with
  | zero => intro r _ h; exact h
  | succ k ih => intro r h h0; exact ih _ (bit1_lt r h) (bit1_ne r h h0)

theorem iter_zero (k : Nat) : iter k 0 = 0 := by
  induction k with
  | zero => rfl
  | succ k ih => rw [iter, bit1_zero, ih]

theorem add_xor (k x y : Nat) (h : y < 2 ^ k) : y + 2 ^ k * x = y ^^^ (x * 2 ^ k) := by
  apply Nat.eq_of_testBit_eq
  intro j
  rw [Nat.testBit_xor, Nat.add_comm, Nat.testBit_two_pow_mul_add x h, Nat.mul_comm x, Nat.testBit_two_pow_mul]
  by_cases hj : j < k
  · rw [if_pos hj]
    simp [Nat.not_le.2 hj]
  · rw [if_neg hj, Nat.testBit_lt_two_pow (Nat.lt_of_lt_of_le h (Nat.pow_le_pow_right (by decide) (by omega)))]
    simp [Nat.not_lt.1 hj]

theorem tab_eq : ∀ i : Fin 16, iter 4 i.val = (tab.getD i.val 0).toNat := by decide +kernel

theorem nib_eq (r : Nat) : nib r = iter 4 r := by
  have e : r = (r % 16) ^^^ (r / 16 * 2 ^ 4) := by
    rw [← add_xor 4 (r / 16) (r % 16) (by omega)]
    omega
  have t := tab_eq ⟨r % 16, by omega⟩
  conv => rhs; rw [e, iter_xor, iter_pow, t]
  unfold nib
  rw [Nat.xor_comm]

theorem nib2_eq (r : Nat) : nib (nib r) = iter 8 r := by
  rw [nib_eq, nib_eq, ← iter_add]

theorem rem_lt (zs : List Int) (hb : Bytes zs) : ∀ r, r < 4294967296 → rem r zs < 4294967296 := by
  induction zs with
  | nil => intro r h; exact h
  | cons z t ih =>
    intro r h
    refine ih (fun n hn => hb n (by simp [hn])) _ (iter_lt _ _ ?_)
    have := hb z (by simp)
    exact Nat.xor_lt_two_pow (n := 32) h (by omega)

theorem rem_append (r : Nat) (a b : List Int) : rem r (a ++ b) = rem (rem r a) b := by
  unfold rem
  rw [List.foldl_append]

theorem rem_num (zs : List Int) (hb : Bytes zs) : ∀ r, rem r zs = iter (8 * zs.length) (r ^^^ num zs) := by
  induction zs with
  | nil => intro r; simp [rem, num, iter]
  | cons z t ih =>
    intro r
    have hz := hb z (by simp)
    have e : num (z :: t) = z.toNat ^^^ (num t * 2 ^ 8) := by
      rw [← add_xor 8 (num t) z.toNat (by omega)]
      rfl
    show rem (iter 8 (r ^^^ z.toNat)) t = _
    rw [ih (fun n hn => hb n (by simp [hn])), e, List.length_cons, show 8 * (t.length + 1) = 8 + 8 * t.length by omega, iter_add, ← Nat.xor_assoc, iter_xor 8 _ (num t * 2 ^ 8), iter_pow]

/-- what a burst does to a remainder -/
theorem burst (zs ys : List Int) (hz : Bytes zs) (hy : Bytes ys) (hl : ys.length = zs.length) (at' bits r : Nat) (hb : bits < 4294967296) (h0 : bits ≠ 0) (hat : at' + 32 ≤ 8 * zs.length)
    (hn : num ys = num zs ^^^ (bits * 2 ^ at')) : rem r ys ≠ rem r zs := by
  rw [rem_num zs hz, rem_num ys hy, hl, hn, ← Nat.xor_assoc, iter_xor]
  intro e
  have e2 : iter (8 * zs.length) (bits * 2 ^ at') = 0 := by
    have e3 := congrArg (fun t => iter (8 * zs.length) (r ^^^ num zs) ^^^ t) e
    simpa [← Nat.xor_assoc, Nat.xor_self] using e3
  rw [show 8 * zs.length = at' + (8 * zs.length - at') by omega, iter_add, iter_pow] at e2
  exact iter_ne _ _ hb h0 e2

theorem rem_snoc (r : Nat) (zs : List Int) (k : Nat) (h : k < zs.length) : rem r (zs.take (k + 1)) = iter 8 (rem r (zs.take k) ^^^ (zs.getD k 0).toNat) := by
  have e : zs.take (k + 1) = zs.take k ++ [zs.getD k 0] := by
    rw [List.take_add_one, List.getElem?_eq_getElem h, List.getD_eq_getElem?_getD, List.getElem?_eq_getElem h]
    rfl
  rw [e, rem_append]
  rfl

theorem sum_known : sum [49, 50, 51, 52, 53, 54, 55, 56, 57] = 3808858755 := by decide +kernel

end Go.Proofs.YtfibmpconfoieaaDoor.Crc
