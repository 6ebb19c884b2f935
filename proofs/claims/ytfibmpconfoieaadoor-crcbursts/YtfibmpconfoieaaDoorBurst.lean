/-
  What turning bits of a packet does to its number, and that a burst of 32 bits outside the sum's place makes the packet one that has not its sum.
  Conditions: as at each lemma.
-/
import Derived.Test.YtfibmpconfoieaaDoorAny
namespace Go.Proofs.YtfibmpconfoieaaDoor.Crc
set_option linter.unusedVariables false

theorem xor_pow (a b k : Nat) : (a ^^^ b) * 2 ^ k = a * 2 ^ k ^^^ b * 2 ^ k := by
  have := @Nat.shiftLeft_xor_distrib k a b
  simpa [Nat.shiftLeft_eq] using this

theorem num_cons (z : Int) (r : List Int) (h : 0 ≤ z ∧ z < 256) : num (z :: r) = z.toNat ^^^ (num r * 2 ^ 8) := by
  rw [← add_xor 8 (num r) z.toNat (by omega)]
  rfl

theorem num_flip (ys : List Int) (hb : Bytes ys) : ∀ (K : Nat) (h : K / 8 < ys.length), num (ys.set (K / 8) (((ys[K / 8]).toNat ^^^ 2 ^ (K % 8) : Nat) : Int)) = num ys ^^^ 2 ^ K := by
  induction ys with
  | nil => intro K h; simp at h
  | cons z r ih =>
    intro K h
    have hz := hb z (by simp)
    have hr : Bytes r := fun n hn => hb n (by simp [hn])
    rcases Nat.lt_or_ge K 8 with hk | hk
    · have e0 : K / 8 = 0 := by omega
      have e1 : K % 8 = K := by omega
      have hp : 2 ^ K < 256 := by
        have : 2 ^ K ≤ 2 ^ 7 := Nat.pow_le_pow_right (by decide) (by omega)
        omega
      have hx : z.toNat ^^^ 2 ^ K < 256 := Nat.xor_lt_two_pow (n := 8) (by omega) hp
      simp only [e0, e1, List.set_cons_zero, List.getElem_cons_zero]
      rw [num_cons _ r (by omega), num_cons z r hz, Int.toNat_natCast, Nat.xor_assoc, Nat.xor_assoc, Nat.xor_comm (2 ^ K)]
    · have e0 : K / 8 = (K - 8) / 8 + 1 := by omega
      have e1 : K % 8 = (K - 8) % 8 := by omega
      have hl : (K - 8) / 8 < r.length := by simp only [List.length_cons] at h; omega
      have e2 : 2 ^ (K - 8) * 2 ^ 8 = 2 ^ K := by rw [← Nat.pow_add]; congr 1; omega
      simp only [e0, e1, List.set_cons_succ, List.getElem_cons_succ]
      rw [num_cons z _ hz, num_cons z r hz, ih hr (K - 8) hl, xor_pow, e2, Nat.xor_assoc]

theorem zed_get (ys : List Int) (h : 12 ≤ ys.length) (i : Nat) : (zed ys)[i]? = if i < 8 ∨ 12 ≤ i then ys[i]? else some 0 := by
  unfold zed
  rw [List.getElem?_append, List.length_take, Nat.min_eq_left (by omega)]
  by_cases h8 : i < 8
  · rw [if_pos h8, if_pos (.inl h8), List.getElem?_take, if_pos h8]
  · rw [if_neg h8, List.getElem?_append]
    by_cases h12 : 12 ≤ i
    · rw [if_neg (by simp; omega), if_pos (.inr h12), List.getElem?_drop]
      congr 1
      simp
      omega
    · rw [if_pos (by simp; omega), if_neg (by omega)]
      obtain rfl | rfl | rfl | rfl : i = 8 ∨ i = 9 ∨ i = 10 ∨ i = 11 := by omega
      all_goals rfl

theorem zed_set (ys : List Int) (h : 12 ≤ ys.length) (J : Nat) (x : Int) (hJ : J < 8 ∨ 12 ≤ J) : zed (ys.set J x) = (zed ys).set J x := by
  apply List.ext_getElem?
  intro i
  rw [zed_get _ (by simpa using h), List.getElem?_set, List.getElem?_set, zed_get _ h, zed_len ys h]
  by_cases hi : J = i
  · subst hi
    rw [if_pos rfl, if_pos hJ, if_pos rfl]
  · rw [if_neg hi, if_neg hi]

theorem mid_set (ys : List Int) (J : Nat) (x : Int) (hJ : J < 8 ∨ 12 ≤ J) : ((ys.set J x).drop 8).take 4 = (ys.drop 8).take 4 := by
  apply List.ext_getElem?
  intro i
  rw [List.getElem?_take, List.getElem?_take]
  by_cases hi : i < 4
  · rw [if_pos hi, if_pos hi, List.getElem?_drop, List.getElem?_drop, List.getElem?_set, if_neg (by omega)]
  · rw [if_neg hi, if_neg hi]

theorem zed_put {zs : List Int} (h : 12 ≤ zs.length) : zed (putOf zs) = zed zs := by
  unfold zed
  have e1 : (putOf zs).take 8 = zs.take 8 := by
    unfold putOf
    rw [List.take_append_of_le_length (by simp; omega), List.take_of_length_le (by simp; omega)]
  have e2 : (putOf zs).drop 12 = zs.drop 12 := by
    unfold putOf
    rw [← List.append_assoc, List.drop_append_of_le_length (by simp [b4]; omega), List.drop_of_length_le (by simp [b4]; omega)]
    rfl
  rw [e1, e2]

theorem mid_put {zs : List Int} (h : 12 ≤ zs.length) : ((putOf zs).drop 8).take 4 = b4 (sum (zed zs)) := by
  unfold putOf
  rw [List.drop_append_of_le_length (by simp; omega), List.drop_of_length_le (by simp; omega), List.nil_append, List.take_append_of_le_length (by simp [b4])]
  rfl

theorem b4_inj {s t : Nat} (hs : s < 4294967296) (ht : t < 4294967296) (h : b4 s = b4 t) : s = t := by
  simp only [b4, List.cons.injEq, and_true] at h
  omega

/-- what stands behind k of the burst's bits -/
def Inv (zs : List Int) (B T k : Nat) (ys : List Int) : Prop :=
  ys.length = zs.length ∧ Bytes ys ∧ num (zed ys) = num (zed zs) ^^^ (B % 2 ^ k * 2 ^ T) ∧ (ys.drop 8).take 4 = b4 (sum (zed zs))

theorem inv_start {zs : List Int} (h : 12 ≤ zs.length) (hb : Bytes zs) (B T : Nat) : Inv zs B T 0 (putOf zs) := by
  refine ⟨put_len h, put_bytes hb, ?_, mid_put h⟩
  rw [zed_put h, Nat.pow_zero, Nat.mod_one, Nat.zero_mul, Nat.xor_zero]

theorem inv_zero {zs ys : List Int} {B T k : Nat} (h : Inv zs B T k ys) (hz : B / 2 ^ k % 2 = 0) : Inv zs B T (k + 1) ys := by
  obtain ⟨h1, h2, h3, h4⟩ := h
  refine ⟨h1, h2, ?_, h4⟩
  rw [Nat.mod_pow_succ, hz, Nat.mul_zero, Nat.add_zero]
  exact h3

theorem inv_one {zs ys : List Int} {B T k : Nat} (h : Inv zs B T k ys) (h12 : 12 ≤ zs.length) (hz : B / 2 ^ k % 2 = 1) (hK : (T + k) / 8 < ys.length) (hJ : (T + k) / 8 < 8 ∨ 12 ≤ (T + k) / 8) :
    Inv zs B T (k + 1) (ys.set ((T + k) / 8) (((ys[(T + k) / 8]).toNat ^^^ 2 ^ ((T + k) % 8) : Nat) : Int)) := by
  obtain ⟨h1, h2, h3, h4⟩ := h
  have hl : 12 ≤ ys.length := by omega
  have hzl := zed_len ys hl
  have hg : (zed ys)[(T + k) / 8]'(by omega) = ys[(T + k) / 8] := by
    have e := zed_get ys hl ((T + k) / 8)
    rw [if_pos hJ, List.getElem?_eq_getElem (by omega), List.getElem?_eq_getElem hK] at e
    exact Option.some.inj e
  refine ⟨by simpa using h1, ?_, ?_, by rw [mid_set ys _ _ hJ]; exact h4⟩
  · intro n hn
    rcases List.mem_or_eq_of_mem_set hn with hn | rfl
    · exact h2 n hn
    · have hx := h2 _ (List.getElem_mem hK)
      have hp : 2 ^ ((T + k) % 8) < 256 := by
        have : 2 ^ ((T + k) % 8) ≤ 2 ^ 7 := Nat.pow_le_pow_right (by decide) (by omega)
        omega
      have := Nat.xor_lt_two_pow (n := 8) (x := (ys[(T + k) / 8]).toNat) (y := 2 ^ ((T + k) % 8)) (by omega) hp
      omega
  · have hnf := num_flip (zed ys) (zed_bytes h2) (T + k) (by omega)
    rw [hg] at hnf
    rw [zed_set ys hl _ _ hJ, hnf, h3, Nat.mod_pow_succ, hz, add_xor k 1 (B % 2 ^ k) (Nat.mod_lt _ (Nat.two_pow_pos k)), xor_pow, Nat.one_mul, ← Nat.pow_add, Nat.add_comm T k, Nat.xor_assoc]

theorem inv_end {zs ys : List Int} {B T : Nat} (h : Inv zs B T 32 ys) (h12 : 12 ≤ zs.length) (hb : Bytes zs) (hB : B < 4294967296) (hB0 : B ≠ 0) (hT : T + 32 ≤ 8 * zs.length) : codeOf ys = 21 := by
  obtain ⟨h1, h2, h3, h4⟩ := h
  have hl : 12 ≤ ys.length := by omega
  rw [Nat.mod_eq_of_lt (show B < 2 ^ 32 by omega)] at h3
  apply code_bad
  rw [put_eq_iff hl, h4]
  intro e
  have e2 := b4_inj (sum_lt _ (zed_bytes h2)) (sum_lt _ (zed_bytes hb)) e
  have hne := burst (zed zs) (zed ys) (zed_bytes hb) (zed_bytes h2) (by rw [zed_len ys hl, zed_len zs h12, h1]) T B 4294967295 hB hB0 (by rw [zed_len zs h12]; exact hT) h3
  apply hne
  unfold sum at e2
  have e3 := congrArg (fun t => t ^^^ 4294967295) e2
  simpa [Nat.xor_assoc, Nat.xor_self] using e3

/-- what the walk makes of a turned bit -/
theorem flip_walk (a1 : Int) (k : Nat) (x : Int) (h0 : 0 ≤ a1) (hx : 0 ≤ x ∧ x < 256) :
    bits .xor .u8 x (2 ^ ((a1 + (k : Int)) % 8).toNat % 256) = ((x.toNat ^^^ 2 ^ ((a1.toNat + k) % 8) : Nat) : Int) := by
  have e1 : ((a1 + (k : Int)) % 8).toNat = (a1.toNat + k) % 8 := by omega
  have hp : 2 ^ ((a1.toNat + k) % 8) < 256 := by
    have : 2 ^ ((a1.toNat + k) % 8) ≤ 2 ^ 7 := Nat.pow_le_pow_right (by decide) (by omega)
    omega
  have e2 : ((2 : Int) ^ ((a1.toNat + k) % 8) % 256) = ((2 ^ ((a1.toNat + k) % 8) : Nat) : Int) := by
    have : ((2 : Int) ^ ((a1.toNat + k) % 8)) = ((2 ^ ((a1.toNat + k) % 8) : Nat) : Int) := by simp
    rw [this]
    generalize 2 ^ ((a1.toNat + k) % 8) = m at hp
    omega
  have e3 : x = ((x.toNat : Nat) : Int) := by omega
  rw [e1, e2]
  generalize hn : x.toNat = n at e3
  rw [e3, u8_xor_nat _ _ (by omega) hp]

end Go.Proofs.YtfibmpconfoieaaDoor.Crc
