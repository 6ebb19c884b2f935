/-
  Rows of bytes laid on one another, and that their sums are laid on one another as they are.
  Conditions: as at each lemma.
-/
import Derived.Test.YtfibmpconfoieaaDoorAny
namespace Go.Proofs.YtfibmpconfoieaaDoor.Crc
open Go.ChangeShapes Go.WideShapes Go.ChangeAt Go.RowKit
set_option linter.unusedVariables false

def lay3 (x y z : Int) : Int := ((x.toNat ^^^ y.toNat ^^^ z.toNat : Nat) : Int)
/-- the first n bytes of three rows, laid on one another -/
def lay (xs ys zs : List Int) (n : Nat) : List Int := (List.range n).map fun i => lay3 (xs.getD i 0) (ys.getD i 0) (zs.getD i 0)

theorem lay_len (xs ys zs : List Int) (n : Nat) : (lay xs ys zs n).length = n := by simp [lay]
theorem lay_succ (xs ys zs : List Int) (n : Nat) : lay xs ys zs (n + 1) = lay xs ys zs n ++ [lay3 (xs.getD n 0) (ys.getD n 0) (zs.getD n 0)] := by
  unfold lay
  rw [List.range_succ, List.map_append]
  rfl

theorem lay3_byte {x y z : Int} (hx : 0 ≤ x ∧ x < 256) (hy : 0 ≤ y ∧ y < 256) (hz : 0 ≤ z ∧ z < 256) : 0 ≤ lay3 x y z ∧ lay3 x y z < 256 := by
  have h := Nat.xor_lt_two_pow (n := 8) (Nat.xor_lt_two_pow (n := 8) (show x.toNat < 2 ^ 8 by omega) (show y.toNat < 2 ^ 8 by omega)) (show z.toNat < 2 ^ 8 by omega)
  unfold lay3
  omega

theorem lay3_walk {x y z : Int} (hx : 0 ≤ x ∧ x < 256) (hy : 0 ≤ y ∧ y < 256) (hz : 0 ≤ z ∧ z < 256) : bits .xor .u8 (bits .xor .u8 x y) z = lay3 x y z := by
  have ex : x = ((x.toNat : Nat) : Int) := by omega
  have ey : y = ((y.toNat : Nat) : Int) := by omega
  have ez : z = ((z.toNat : Nat) : Int) := by omega
  have h := Nat.xor_lt_two_pow (n := 8) (show x.toNat < 2 ^ 8 by omega) (show y.toNat < 2 ^ 8 by omega)
  unfold lay3
  generalize x.toNat = a at *
  generalize y.toNat = b at *
  generalize z.toNat = c at *
  rw [ex, ey, ez, u8_xor_nat _ _ (by omega) (by omega), u8_xor_nat _ _ h (by omega)]

theorem byte_at (zs : List Int) (hb : Bytes zs) (k : Nat) : 0 ≤ zs.getD k 0 ∧ zs.getD k 0 < 256 := by
  rw [List.getD_eq_getElem?_getD]
  exact at_bound zs hb k

theorem lay_bytes {xs ys zs : List Int} (hx : Bytes xs) (hy : Bytes ys) (hz : Bytes zs) (n : Nat) : Bytes (lay xs ys zs n) := by
  intro m hm
  obtain ⟨i, _, rfl⟩ := List.mem_map.1 hm
  exact lay3_byte (byte_at xs hx i) (byte_at ys hy i) (byte_at zs hz i)

theorem six (a b c x y z : Nat) : (a ^^^ x) ^^^ (b ^^^ y) ^^^ (c ^^^ z) = (a ^^^ b ^^^ c) ^^^ (x ^^^ y ^^^ z) := by
  apply Nat.eq_of_testBit_eq
  intro i
  simp only [Nat.testBit_xor]
  cases a.testBit i <;> cases b.testBit i <;> cases c.testBit i <;> cases x.testBit i <;> cases y.testBit i <;> cases z.testBit i <;> rfl

theorem rem_lay (xs ys zs : List Int) (r s t : Nat) : ∀ n, n ≤ xs.length → n ≤ ys.length → n ≤ zs.length →
    rem (r ^^^ s ^^^ t) (lay xs ys zs n) = rem r (xs.take n) ^^^ rem s (ys.take n) ^^^ rem t (zs.take n) := by
  intro n
  induction n with
  | zero => intro _ _ _; simp [lay, rem]
  | succ n ih =>
    intro h1 h2 h3
    have e : rem (r ^^^ s ^^^ t) (lay xs ys zs n ++ [lay3 (xs.getD n 0) (ys.getD n 0) (zs.getD n 0)]) = iter 8 (rem (r ^^^ s ^^^ t) (lay xs ys zs n) ^^^ (lay3 (xs.getD n 0) (ys.getD n 0) (zs.getD n 0)).toNat) := by
      rw [rem_append]; rfl
    rw [lay_succ, e, ih (by omega) (by omega) (by omega), rem_snoc r xs n (by omega), rem_snoc s ys n (by omega), rem_snoc t zs n (by omega), ← iter_xor, ← iter_xor, six]
    congr 1

theorem sum_lay (xs ys zs : List Int) (n : Nat) (h1 : n ≤ xs.length) (h2 : n ≤ ys.length) (h3 : n ≤ zs.length) :
    sum (lay xs ys zs n) = sum (xs.take n) ^^^ sum (ys.take n) ^^^ sum (zs.take n) := by
  have h := rem_lay xs ys zs 4294967295 4294967295 4294967295 n h1 h2 h3
  have e : (4294967295 ^^^ 4294967295 ^^^ 4294967295 : Nat) = 4294967295 := by decide
  rw [e] at h
  unfold sum
  rw [six, e, h]

theorem Row.upto {w : World} {a : Option Addr} {len : Nat} {zs : List Int} (h : Row w a len zs) (n : Nat) (hn : n ≤ len) : Row w a n (zs.take n) := by
  obtain ⟨h1, h2, h3, h4⟩ := h
  refine ⟨by rw [List.length_take]; omega, fun m hm => h2 m (List.mem_of_mem_take hm), by omega, ?_⟩
  rcases Nat.eq_zero_or_pos n with h0 | hp
  · exact .inl h0
  · obtain ⟨b, off, rfl, hc⟩ := h4.resolve_left (by omega)
    refine .inr ⟨b, off, rfl, fun j hj => ?_⟩
    rw [hc j (by omega), List.getD_eq_getElem?_getD, List.getD_eq_getElem?_getD, List.getElem?_take, if_pos hj]

end Go.Proofs.YtfibmpconfoieaaDoor.Crc
