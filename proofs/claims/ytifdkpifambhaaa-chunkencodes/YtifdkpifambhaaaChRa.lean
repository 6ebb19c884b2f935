/-
  The document's reader: numbers at a place, gaps at a place.
  Conditions: the numbers lie within their kinds, the cells hold them.
-/
import Derived.Test.YtifdkpifambhaaaChU
namespace Go.Proofs.Ytifdkpifambhaaa.Chu
open Go.ChangeShapes Go.WideShapes Go.ChangeAt Go.RowKit
open Par (hidden Bytes Row Prm Prms cell_lt Cap cells_new cutA thrown form_of)
set_option linter.unusedVariables false
attribute [local go_sem ↓] execOp_ld execOp_bx execOp_st

/-- so many bytes at a place as a number -/
def gx (v : List Int) (p : Nat) : Nat → Int
  | 0 => 0
  | i + 1 => gx v p i * 256 + v.getD (p + i) 0
theorem gx2 (v : List Int) (p : Nat) : gx v p 2 = n2 v p := by simp [gx, n2]
theorem gx4 (v : List Int) (p : Nat) : gx v p 4 = n4 v p := by
  simp only [gx, n4, n2, Nat.add_zero, Nat.add_assoc, Nat.reduceAdd]
  omega
theorem gx_bound {v : List Int} (h : Bytes v) (p i : Nat) : 0 ≤ gx v p i ∧ gx v p i < (256 : Int) ^ i := by
  induction i with
  | zero => simp [gx]
  | succ i ih =>
    have hb := Par.at_bound v h (p + i)
    simp only [gx, Int.pow_succ]
    omega
theorem or_low (x y : Int) (hx : 0 ≤ x ∧ x < 16777216) (hy : 0 ≤ y ∧ y < 256) : bits .or .u32 (x * 256) y = x * 256 + y := by
  obtain ⟨X, rfl⟩ : ∃ X : Nat, x = (X : Int) := ⟨x.toNat, by omega⟩
  obtain ⟨Y, rfl⟩ : ∃ Y : Nat, y = (Y : Int) := ⟨y.toNat, by omega⟩
  rw [show (X : Int) * 256 = ((X * 256 : Nat) : Int) by omega, u32_or_nat (X * 256) Y (by omega) (by omega)]
  have := Nat.two_pow_add_eq_or_of_lt (i := 8) (b := Y) (by omega) X
  rw [Nat.mul_comm X, ← this]
  omega
theorem pow_le (i : Nat) (h : i < 4) : (256 : Int) ^ i ≤ 16777216 := by
  match i, h with
  | 0, _ => decide
  | 1, _ => decide
  | 2, _ => decide
  | 3, _ => decide
theorem rGet (base : Nat) (w : World) (a : Option Addr) (len cap p n : Nat) (v : List Int) (h : Row base w a len v) (hn : n ≤ 4) (hp : p + n ≤ len) :
    Calls Try.prog 36 #[.slice a len cap, .int .i64 (p : Int), .int .i64 (n : Int)] w fun e w' => e = .returned (.int .u32 (gx v p n)) ∧ w = w' := by
  have hl := h.1
  have hlim := h.2.2.1
  have HR := hidden h
  clear h
  go_enter Try.func36, Try.ntmps36
  go_wp2_with fail
  go_loopw [7, 8] (fun x i wr => ∃ k : Nat, k ≤ n ∧ i = .int .i64 k ∧ x = .int .u32 (gx v p k) ∧ w = wr) (fun _ i _ => n - (intOf i).toNat)
  case atStart => exact ⟨0, Nat.zero_le _, rfl, rfl, rfl⟩
  case round =>
    obtain ⟨k, hk, rfl, rfl, rfl⟩ := hrel
    rcases Nat.lt_or_ge k n with hlt | hge
    · obtain ⟨b, off, rfl, hc⟩ := row_cell HR.out (Below.refl _ _) (j := p + k) (by omega)
      have xb := gx_bound HR.out.2.1 p k
      have xp := pow_le k (by omega)
      have yb := Par.at_bound v HR.out.2.1 (p + k)
      have ho := or_low (gx v p k) (v.getD (p + k) 0) ⟨xb.1, by omega⟩ yb
      have HS := hidden (show gx v p (k + 1) = gx v p k * 256 + v.getD (p + k) 0 from rfl)
      have xb2 : 0 ≤ gx v p k ∧ gx v p k < 16777216 := ⟨xb.1, by omega⟩
      clear xb xp
      generalize gx v p k = x at *
      generalize v.getD (p + k) 0 = y at *
      have hw : ∀ z : Int, IntKind.u32.wrap z = z % 4294967296 := fun _ => rfl
      have hm : x * 256 % 4294967296 = x * 256 := by omega
      have hy : y % 4294967296 = y := by omega
      have hi : ((p : Int) + (k : Int)).toNat = p + k := by omega
      have hi2 : (p : Int) + (k : Int) < (len : Int) := by omega
      have hi3 : 0 ≤ (p : Int) + (k : Int) := by omega
      go_wp2
      go_roundw
      case rel => exact ⟨k + 1, by omega, by go_num, by rw [HS.out], by first | trivial | rfl⟩
      case measure => simp [intOf]; omega
    · obtain rfl : n = k := by omega
      go_wp2
      go_ret
      exact ⟨rfl, rfl⟩
theorem rGet2 (base : Nat) (w : World) (a : Option Addr) (len cap p : Nat) (v : List Int) (h : Row base w a len v) (hp : p + 2 ≤ len) :
    Calls Try.prog 36 #[.slice a len cap, .int .i64 (p : Int), .int .i64 2] w fun e w' => e = .returned (.int .u32 (n2 v p)) ∧ w = w' := by
  have := rGet base w a len cap p 2 v h (by omega) hp
  rw [gx2] at this
  exact this
theorem rGet4 (base : Nat) (w : World) (a : Option Addr) (len cap p : Nat) (v : List Int) (h : Row base w a len v) (hp : p + 4 ≤ len) :
    Calls Try.prog 36 #[.slice a len cap, .int .i64 (p : Int), .int .i64 4] w fun e w' => e = .returned (.int .u32 (n4 v p)) ∧ w = w' := by
  have := rGet base w a len cap p 4 v h (by omega) hp
  rw [gx4] at this
  exact this
theorem i2 (n k p : Nat) (hn : n ≤ 4096) (hk : k < n) (hp : p ≤ 140737488355328) : (p : Int) + 4 * (k : Int) = ((p + 4 * k : Nat) : Int) ∧ ((p + 4 * k : Nat) : Int) + 2 = ((p + 4 * k + 2 : Nat) : Int) := by omega
set_option maxRecDepth 20000 in
theorem rBlocks (base : Nat) (w : World) (a : Option Addr) (len cap p n : Nat) (v : List Int) (h : Row base w a len v) (hn : n ≤ 4096) (hp : p + 4 * n ≤ len) :
    Calls Try.prog 79 #[.slice a len cap, .int .i64 (p : Int), .int .i64 (n : Int)] w fun e w' => ∃ u, e = .returned u ∧ w'.ownsRow w.heap.size 69 2 u n (gcs (gapsAt v p n)) ∧ Below w.heap.size w w' := by
  obtain ⟨i0, hi, hz0, hz1, hz2⟩ := info_parts infoG
  have hl := h.1
  have hlim := h.2.2.1
  have HR := hidden h
  clear h
  go_enter Try.func79, Try.ntmps79
  go_wp2_with fail
  go_loopw [7, 8] (fun u i wr => ∃ k : Nat, k ≤ n ∧ i = .int .i64 k ∧ wr.ownsRow w.heap.size 69 2 u k (gcs (gapsAt v p k)) ∧ Below w.heap.size w wr) (fun _ i _ => n - (intOf i).toNat)
  case atStart => exact ⟨0, Nat.zero_le _, rfl, World.ownsRow_nil _ _ _ _, Below.refl _ _⟩
  case round =>
    obtain ⟨k, hk, rfl, ho, hb⟩ := hrel
    rcases Nat.lt_or_ge k n with hlt | hge
    · obtain ⟨va, vc, rfl⟩ := form_of ho
      have T1 := hidden (rGet2 base wr a len cap (p + 4 * k) v (HR.out.later hb) (by omega))
      have T2 := hidden (rGet2 base wr a len cap (p + 4 * k + 2) v (HR.out.later hb) (by omega))
      have xb := n2_bound HR.out.2.1 (p + 4 * k)
      have yb := n2_bound HR.out.2.1 (p + 4 * k + 2)
      have HO2 := hidden ho
      have HB := hidden hb
      have hs2 := hb.size
      clear ho hb
      have HS := hidden (gapsAt_succ v p k)
      have hw : ∀ z : Int, IntKind.u16.wrap z = z % 65536 := fun _ => rfl
      go_wp2_with fail
      refine Calls.mono T1.out ?_
      rintro e w1 ⟨rfl, rfl⟩
      clear T1
      generalize n2 v (p + 4 * k) = x at *
      generalize n2 v (p + 4 * k + 2) = y at *
      have hx : x % 65536 = x := by omega
      have hy : y % 65536 = y := by omega
      go_wp2_with fail
      refine Calls.mono T2.out ?_
      rintro e w1 ⟨rfl, rfl⟩
      clear T2
      go_wp2_with (at_builtin; refine wpList_append_own _ rfl _ _ 33 rfl w.heap.size 69 i0 (.agg #[.int .u16 0, .int .u16 0]) 2 4 Try.underlying33 hi hz0 hz1 hz2 rfl (by decide) _ _ _ rfl (HO2.out.alloc _) ⟨wr.heap.size, 0, none⟩ 1 1 [.int .u16 x, .int .u16 y] rfl rfl (cells_new wr _ 69) ?c2 ?c3 ?c4 ?c5 ?_)
      case c2 =>
        intro u hu
        simp only [List.mem_cons, List.not_mem_nil, or_false] at hu
        rcases hu with rfl | rfl <;> rfl
      case c3 => unfold maxLen; omega
      case c4 => omega
      case c5 => simp; omega
      intro v' w3 ho3 hg3 _
      have hrw := fun k hk => (HO2.out.lt k hk).1
      have HO3 := hidden ho3
      have HB3 := hidden (((HB.out.alloc hs2 (.cells #[.int .u16 x, .int .u16 y] 69))).grown hg3 (by simp; omega) hrw)
      clear ho3 hg3 hrw
      go_wp2
      go_roundw
      case rel => exact ⟨k + 1, by omega, by go_num, by rw [HS.out, gcs_append]; exact HO3.out, HB3.out⟩
      case measure => simp [intOf]; omega
    · obtain rfl : n = k := by omega
      have HO := hidden ho
      have HB := hidden hb
      clear ho hb
      go_wp2
      go_ret
      exact ⟨_, rfl, HO.out, HB.out⟩
end Go.Proofs.Ytifdkpifambhaaa.Chu
