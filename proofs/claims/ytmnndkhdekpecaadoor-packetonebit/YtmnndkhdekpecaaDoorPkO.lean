/-
  A packet's bytes with one bit turned have another sum.
  Conditions: as at each lemma.
-/
import Derived.Test.YtmnndkhdekpecaaDoorPkM
namespace Go.Proofs.YtmnndkhdekpecaaDoor.Pkt
open Crc (putOf zed b4 codeOf num Inv)
set_option linter.unusedVariables false

/-- one bit turned -/
def turned (ys : List Int) (K : Nat) : List Int := ys.set (K / 8) (((ys.getD (K / 8) 0).toNat ^^^ 2 ^ (K % 8) : Nat) : Int)
theorem turned_len (ys : List Int) (K : Nat) : (turned ys K).length = ys.length := List.length_set
theorem pow8 (K : Nat) : 0 < 2 ^ (K % 8) ∧ 2 ^ (K % 8) < 256 := by
  have : 2 ^ (K % 8) ≤ 2 ^ 7 := Nat.pow_le_pow_right (by decide) (by omega)
  exact ⟨Nat.two_pow_pos _, by omega⟩
theorem turned_byte {ys : List Int} (hb : Crc.Bytes ys) (K : Nat) : 0 ≤ ((((ys.getD (K / 8) 0).toNat ^^^ 2 ^ (K % 8) : Nat) : Int)) ∧ ((((ys.getD (K / 8) 0).toNat ^^^ 2 ^ (K % 8) : Nat) : Int)) < 256 := by
  have hx := Par.at_bound ys hb (K / 8)
  have := Nat.xor_lt_two_pow (n := 8) (x := (ys.getD (K / 8) 0).toNat) (y := 2 ^ (K % 8)) (by omega) (pow8 K).2
  omega
theorem turned_bytes {ys : List Int} (hb : Crc.Bytes ys) (K : Nat) : Crc.Bytes (turned ys K) := by
  intro n hn
  rcases List.mem_or_eq_of_mem_set hn with hn | rfl
  · exact hb n hn
  · exact turned_byte hb K
theorem turned_bad {zs : List Int} (h12 : 12 ≤ zs.length) (hb : Crc.Bytes zs) (K : Nat) (hK : K < 8 * zs.length) : putOf (turned (putOf zs) K) ≠ turned (putOf zs) K := by
  have hpl := Crc.put_len h12
  have hpb := Crc.put_bytes hb
  have hJl : K / 8 < (putOf zs).length := by omega
  have hgd : (putOf zs).getD (K / 8) 0 = (putOf zs)[K / 8] := by rw [List.getD_eq_getElem?_getD, List.getElem?_eq_getElem hJl]; rfl
  by_cases hJ : K / 8 < 8 ∨ 12 ≤ K / 8
  · obtain ⟨T, k, hTk, hk, hT⟩ : ∃ T k, T + k = K ∧ k < 32 ∧ T + 32 ≤ 8 * zs.length := by
      rcases Nat.lt_or_ge (8 * zs.length) (K + 32) with h | h
      · exact ⟨8 * zs.length - 32, K - (8 * zs.length - 32), by omega, by omega, by omega⟩
      · exact ⟨K, 0, by omega, by omega, h⟩
    have h0 : Inv zs (2 ^ k) T k (putOf zs) := by
      obtain ⟨a, b, c, d⟩ := Crc.inv_start h12 hb (2 ^ k) T
      refine ⟨a, b, ?_, d⟩
      rw [Nat.mod_self, Nat.zero_mul, Nat.xor_zero, Crc.zed_put h12]
    have h1 := Crc.inv_one h0 h12 (by rw [Nat.div_self (Nat.two_pow_pos k)]) (by rw [hTk]; exact hJl) (by rw [hTk]; exact hJ)
    simp only [hTk] at h1
    have e1 : 2 ^ k % 2 ^ (k + 1) = 2 ^ k := Nat.mod_eq_of_lt (Nat.pow_lt_pow_right (by decide) (by omega))
    have e2 : 2 ^ k % 2 ^ 32 = 2 ^ k := Nat.mod_eq_of_lt (Nat.pow_lt_pow_right (by decide) hk)
    have e3 : turned (putOf zs) K = (putOf zs).set (K / 8) (((putOf zs)[K / 8].toNat ^^^ 2 ^ (K % 8) : Nat) : Int) := by unfold turned; rw [hgd]
    have h2 : Inv zs (2 ^ k) T 32 (turned (putOf zs) K) := by
      obtain ⟨a, b, c, d⟩ := h1
      rw [e3]
      refine ⟨a, b, ?_, d⟩
      rw [e2]
      rw [e1] at c
      exact c
    have h3 := Crc.inv_end h2 h12 hb (by have : 2 ^ k < 2 ^ 32 := Nat.pow_lt_pow_right (by decide) hk; omega) (by have := Nat.two_pow_pos k; omega) hT
    intro h4
    rw [Crc.code_ok h4] at h3
    cases h3
  · have hz : zed (turned (putOf zs) K) = zed (putOf zs) := by
      apply List.ext_getElem?
      intro i
      rw [Crc.zed_get _ (by rw [turned_len]; omega), Crc.zed_get _ (by omega)]
      unfold turned
      rw [List.getElem?_set]
      by_cases hi : i < 8 ∨ 12 ≤ i
      · rw [if_pos hi, if_pos hi, if_neg (by omega)]
      · rw [if_neg hi, if_neg hi]
    rw [ne_eq, Crc.put_eq_iff (by rw [turned_len]; omega), hz, Crc.zed_put h12, ← Crc.mid_put h12]
    intro h
    have e := congrArg (fun l => l[K / 8 - 8]?) h
    simp only [List.getElem?_take, List.getElem?_drop, if_pos (show K / 8 - 8 < 4 by omega), show 8 + (K / 8 - 8) = K / 8 by omega] at e
    unfold turned at e
    rw [List.getElem?_set, if_pos rfl, if_pos hJl, List.getElem?_eq_getElem hJl, hgd] at e
    have hx := hpb _ (List.getElem_mem hJl)
    have e2 : (putOf zs)[K / 8].toNat = (putOf zs)[K / 8].toNat ^^^ 2 ^ (K % 8) := by
      have := Option.some.inj e
      omega
    have e3 := congrArg (fun t => (putOf zs)[K / 8].toNat ^^^ t) e2
    simp only [Nat.xor_self, ← Nat.xor_assoc, Nat.zero_xor] at e3
    have := (pow8 K).1
    omega
end Go.Proofs.YtmnndkhdekpecaaDoor.Pkt
