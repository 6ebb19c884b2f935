/-
  A seal as bytes, as package mac and the document make them, and which bytes are known as it.
  Conditions: the numbers lie within their kinds, the cells hold them.
-/
import Derived.Test.YtalfhcaggjgibaaMacArgs
namespace Go.Proofs.Ytalfhcaggjgibaa.Mac
open Go.ChangeShapes Go.WideShapes Go.ChangeAt Go.RowKit
set_option linter.unusedVariables false

/-- a number's byte -/
def dig (x : Int) (i : Nat) : Int := x / 2 ^ (8 * i) % 256
def digs (x : Int) : List Int := (List.range 8).map (dig x)
theorem dig_byte (x : Int) (i : Nat) : 0 ≤ dig x i ∧ dig x i < 256 := by unfold dig; omega
theorem digs_len (x : Int) : (digs x).length = 8 := by simp [digs]
theorem digs_bytes (x : Int) : Bytes (digs x) := by
  intro n hn
  obtain ⟨i, _, rfl⟩ := List.mem_map.1 hn
  exact dig_byte x i
theorem digs_at (x : Int) (i : Nat) (hi : i < 8) : (digs x).getD i 0 = dig x i := by
  unfold digs
  rw [List.getD_eq_getElem?_getD, List.getElem?_map, List.getElem?_range hi]
  rfl

theorem Own.row {w : World} {g n : Nat} {f : Nat → Int} {zs : List Int} (h : Own w g n f) (hl : zs.length = n) (hz : Bytes zs) (hn : n ≤ 281474976710656) (e : ∀ i, i < n → zs.getD i 0 = f i) : Row w (some ⟨g, 0, none⟩) n zs :=
  ⟨hl, hz, hn, .inr ⟨_, _, rfl, fun j hj => by rw [Nat.zero_add, (h.2 j hj).1, e j hj]⟩⟩

theorem text (w : World) (x : Int) (hx : U x) :
    Calls Try.prog 13 #[.int .u64 x] w fun e w' => ∃ g, w.heap.size ≤ g ∧ e = .returned (.slice (some ⟨g, 0, none⟩) 8 8) ∧ Own w' g 8 (dig x) ∧ Below w.heap.size w w' := by
  obtain ⟨mk, hmk, hmo, hmb⟩ := mkB_any 8 (by decide) 8 rfl
  have HM := hidden (hmo w)
  have HB := hidden (hmb w)
  clear hmo hmb
  obtain ⟨hx1, hx2⟩ := hx
  go_enter Try.func13, Try.ntmps13
  go_wp2_with fail
  have own0 := HM.out
  have bel0 := HB.out
  clear HM HB hmk
  generalize mk w = W1 at *
  clear mk
  go_loopw [4, 8] (fun _ i wr => ∃ k : Nat, k ≤ 8 ∧ i = .int .i64 k ∧ Own wr w.heap.size 8 (fun j => if j < k then dig x j else 0) ∧ Below w.heap.size w wr) (fun _ i _ => 8 - (intOf i).toNat)
  case atStart => exact ⟨0, by omega, rfl, own0.cong (fun k hk => by simp), bel0⟩
  case round =>
    obtain ⟨k, hk, rfl, hown, hbel⟩ := hrel
    rcases Nat.lt_or_ge k 8 with hlt | hge
    · obtain ⟨c2, f2⟩ := hown.2 k hlt
      have HO := hidden ((hown.set k hlt (dig x k)).cong (f' := fun j => if j < k + 1 then dig x j else 0) (fun j hj => by
          by_cases e : j = k
          · subst e; rw [if_pos rfl, if_pos (by omega)]
          · rw [if_neg e]
            by_cases e2 : j < k
            · rw [if_pos e2, if_pos (by omega)]
            · rw [if_neg e2, if_neg (by omega)]))
      have hd : x / 2 ^ (8 * k) % 256 = dig x k := rfl
      generalize dig x k = y at HO hd
      clear hown own0
      go_wp2
      go_roundw
      case rel => exact ⟨k + 1, by omega, by go_num, HO.out, hbel.setCell (p := ⟨w.heap.size, k, none⟩) (Nat.le_refl _) _⟩
      case measure => simp [intOf]; omega
    · obtain rfl : k = 8 := by omega
      go_wp2
      go_ret
      exact ⟨w.heap.size, Nat.le_refl _, rfl, hown.cong (fun j hj => by simp only [if_pos hj]), hbel⟩

theorem rtext (w : World) (x : Int) (hx : U x) :
    Calls Try.prog 14 #[.int .u64 x] w fun e w' => ∃ v, e = .returned v ∧ w'.ownsRow w.heap.size 5 1 v 8 ((digs x).map (.int .u8)) ∧ Below w.heap.size w w' := by
  obtain ⟨i0, hi, hz0, hz1, hz2⟩ := info_parts info5
  obtain ⟨hx1, hx2⟩ := hx
  go_enter Try.func14, Try.ntmps14
  go_wp2_with fail
  go_loopw [3, 4] (fun v i wr => ∃ k : Nat, k ≤ 8 ∧ i = .int .i64 k ∧ wr.ownsRow w.heap.size 5 1 v k (((List.range k).map (dig x)).map (.int .u8)) ∧ Below w.heap.size w wr) (fun _ i _ => 8 - (intOf i).toNat)
  case atStart => exact ⟨0, by omega, rfl, World.ownsRow_nil _ _ _ _, Below.refl _ _⟩
  case round =>
    obtain ⟨k, hk, rfl, ho, hbel⟩ := hrel
    rcases Nat.lt_or_ge k 8 with hlt | hge
    · have hd : x / 2 ^ (8 * k) % 256 = dig x k := rfl
      have HS := hidden (show ((List.range (k + 1)).map (dig x)).map (Value.int .u8) = ((List.range k).map (dig x)).map (Value.int .u8) ++ [.int .u8 (dig x k)] by rw [List.range_succ, List.map_append, List.map_append]; rfl)
      generalize dig x k = y at HS hd
      generalize ((List.range k).map (dig x)).map (Value.int .u8) = X at *
      have hsz := hbel.size
      go_wp2_with (at_builtin; refine wpList_append_own _ rfl _ _ 24 rfl w.heap.size 5 i0 (.int .u8 0) 1 1 Try.underlying24 hi hz0 hz1 hz2 rfl (by decide) _ _ _ rfl (ho.alloc _) ⟨wr.heap.size, 0, none⟩ 1 1 [.int .u8 y] rfl rfl (cell_one_new _ _ _) (by simp [Value.oneCell']) ?c3 ?c4 (by simp; omega) ?_)
      case c3 => unfold maxLen; omega
      case c4 => omega
      intro v' w2 ho2 hg2 _
      rw [← HS.out] at ho2
      have hb2 : Below w.heap.size w w2 := (hbel.alloc hsz _).grown hg2 (by rw [size_alloc]; omega) (fun j hj => (ho.lt j hj).1)
      clear hg2
      go_wp2
      go_roundw
      case rel => exact ⟨k + 1, by omega, by go_num, ho2, hb2⟩
      case measure => simp [intOf]; omega
    · obtain rfl : k = 8 := by omega
      go_wp2
      go_ret
      exact ⟨_, rfl, ho, hbel⟩

theorem or_add (a z k : Nat) (hk : k < 8) (ha : a < 2 ^ (8 * k)) (hz : z < 256) : bits .or .u64 (a : Int) (IntKind.u64.wrap ((z : Int) * 2 ^ (8 * k))) = ((a + z * 2 ^ (8 * k) : Nat) : Int) := by
  have hp : 2 ^ (8 * k) * 256 ≤ 18446744073709551616 := by
    have : 2 ^ (8 * k) * 256 = 2 ^ (8 * k + 8) := by rw [Nat.pow_add]
    rw [this, show (18446744073709551616 : Nat) = 2 ^ 64 from rfl]
    exact Nat.pow_le_pow_right (by decide) (by omega)
  have hz2 : z * 2 ^ (8 * k) < 18446744073709551616 := by
    have : z * 2 ^ (8 * k) ≤ 255 * 2 ^ (8 * k) := Nat.mul_le_mul_right _ (by omega)
    have hpos : 0 < 2 ^ (8 * k) := Nat.pow_pos (by decide)
    omega
  have e : IntKind.u64.wrap ((z : Int) * 2 ^ (8 * k)) = ((z * 2 ^ (8 * k) : Nat) : Int) := by
    rw [IntKind.wrap_u64, show ((z : Int) * 2 ^ (8 * k)) = ((z * 2 ^ (8 * k) : Nat) : Int) by simp]
    omega
  have hpos : 0 < 2 ^ (8 * k) := Nat.pow_pos (by decide)
  rw [e, u64_or_nat _ _ (by omega) hz2]
  congr 1
  have := Nat.two_pow_add_eq_or_of_lt ha z
  rw [Nat.mul_comm z, Nat.add_comm, this, Nat.or_comm]

/-- eight bytes as a number: their sum, each in its place -/
theorem pk_sum (f : Nat → Int) (hf : ∀ i, 0 ≤ f i ∧ f i < 256) : ∀ k, k ≤ 8 → ∃ n : Nat, pk f k = (n : Int) ∧ n < 2 ^ (8 * k) ∧ (∀ j, j < k → pk f (j + 1) = pk f j + f j * 2 ^ (8 * j))
  | 0, _ => ⟨0, rfl, by decide, fun j hj => by omega⟩
  | k + 1, h => by
    obtain ⟨n, h1, h2, h3⟩ := pk_sum f hf k (by omega)
    obtain ⟨z, hz⟩ : ∃ z : Nat, f k = (z : Int) := ⟨(f k).toNat, by have := hf k; omega⟩
    have hz2 : z < 256 := by have := hf k; omega
    have e : pk f (k + 1) = ((n + z * 2 ^ (8 * k) : Nat) : Int) := by
      show bits .or .u64 (pk f k) (IntKind.u64.wrap (f k * 2 ^ (8 * k))) = _
      rw [h1, hz, or_add n z k (by omega) h2 hz2]
    refine ⟨_, e, ?_, fun j hj => ?_⟩
    · have : z * 2 ^ (8 * k) ≤ 255 * 2 ^ (8 * k) := Nat.mul_le_mul_right _ (by omega)
      have e2 : 2 ^ (8 * (k + 1)) = 256 * 2 ^ (8 * k) := by rw [show 8 * (k + 1) = 8 + 8 * k by omega, Nat.pow_add]
      omega
    · rcases Nat.lt_or_ge j k with hj2 | hj2
      · exact h3 j hj2
      · obtain rfl : j = k := by omega
        rw [e, h1, hz]
        simp
theorem pk_eight (f : Nat → Int) (hf : ∀ i, 0 ≤ f i ∧ f i < 256) : pk f 8 = f 0 + f 1 * 256 + f 2 * 65536 + f 3 * 16777216 + f 4 * 4294967296 + f 5 * 1099511627776 + f 6 * 281474976710656 + f 7 * 72057594037927936 := by
  obtain ⟨n, _, _, h⟩ := pk_sum f hf 8 (by decide)
  have h0 := h 0 (by decide); have h1 := h 1 (by decide); have h2 := h 2 (by decide); have h3 := h 3 (by decide)
  have h4 := h 4 (by decide); have h5 := h 5 (by decide); have h6 := h 6 (by decide); have h7 := h 7 (by decide)
  rw [h7, h6, h5, h4, h3, h2, h1, h0]
  show 0 + f 0 * 1 + _ + _ + _ + _ + _ + _ + _ = _
  simp
theorem dig_eq (x : Int) : dig x 0 = x % 256 ∧ dig x 1 = x / 256 % 256 ∧ dig x 2 = x / 65536 % 256 ∧ dig x 3 = x / 16777216 % 256 ∧ dig x 4 = x / 4294967296 % 256 ∧ dig x 5 = x / 1099511627776 % 256 ∧ dig x 6 = x / 281474976710656 % 256 ∧ dig x 7 = x / 72057594037927936 % 256 :=
  ⟨by unfold dig; simp, rfl, rfl, rfl, rfl, rfl, rfl, rfl⟩
end Go.Proofs.Ytalfhcaggjgibaa.Mac
