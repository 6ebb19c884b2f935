/-
  What the functions of package spans that ask or change a set do to the row of distances that it stands for.
  Conditions: the set was made by the package, the numbers lie within 32 bits.
-/
import Derived.Test.YtdifceikfnnfeaaDoorSpMem
namespace Go.Proofs.YtdifceikfnnfeaaDoor.Sp
open Go.ChangeShapes Go.WideShapes Go.ChangeAt Go.RowKit
set_option linter.unusedVariables false

/-- block b holds the set with cum c and the distances L -/
def IsSet (w : World) (b c : Nat) (L : List Nat) : Prop := c < 4294967296 ∧ Good 2 L ∧ ∃ R, At w b R (L.length : Int) true c ∧ Ring R c L
theorem IsSet.grown {w w' : World} {b c : Nat} {L : List Nat} {row : Option Nat} (h : IsSet w b c L) (hg : w.grownBy w' row) (hne : some b ≠ row) : IsSet w' b c L := by
  obtain ⟨h1, h2, R, h3, h4⟩ := h
  exact ⟨h1, h2, R, h3.grown hg hne, h4⟩
theorem IsSet.lt {w : World} {b c : Nat} {L : List Nat} (h : IsSet w b c L) : b < w.heap.size := by obtain ⟨_, _, R, h3, _⟩ := h; exact h3.lt

/-- the distance, as a number: 0 where it is in anyway -/
theorem dist_cases (c t : Nat) (hc : c < 4294967296) (ht : t < 4294967296) :
    (Ser.dist 4294967296 (c : Int) (t : Int) ≤ 0) ∨ ∃ d : Nat, 1 ≤ d ∧ d < 2147483648 ∧ Ser.dist 4294967296 (c : Int) (t : Int) = (d : Int) ∧ Hid (t = (c + d) % 4294967296) := by
  unfold Ser.dist
  split
  · by_cases h : ((t : Int) - c) % 4294967296 ≤ 0
    · exact .inl h
    · exact .inr ⟨(((t : Int) - c) % 4294967296).toNat, by omega, by omega, by omega, show t = _ by omega⟩
  · exact .inl (by omega)

/-- is it in? -/
def isIn (c : Nat) (L : List Nat) (t : Nat) : Bool := decide (Ser.dist 4294967296 (c : Int) (t : Int) ≤ 0) || decide ((Ser.dist 4294967296 (c : Int) (t : Int)).toNat ∈ L)

theorem has (t : Nat) (ht : t < 4294967296) (w : World) {b c : Nat} {L : List Nat} (h : IsSet w b c L) :
    Calls Tryd.prog 55 #[.pointer (some ⟨b, 0, none⟩), .int .u32 (t : Int)] w fun e w' => e = .returned (.bool (isIn c L t)) ∧ w = w' := by
  obtain ⟨hc, hg, R, hA, hR⟩ := h
  have hb := Ser.dist32_bounds (c : Int) (t : Int)
  go_enter Tryd.func55, Tryd.ntmps55
  go_wp2_with fail
  refine (unmade _ hA).mono ?_
  rintro e w' ⟨rfl, rfl⟩
  go_wp2_with fail
  refine (distance t ht _ hA hc).mono ?_
  rintro e w' ⟨rfl, rfl⟩
  have hi : Hid (isIn c L t = (decide (Ser.dist 4294967296 (c : Int) (t : Int) ≤ 0) || decide ((Ser.dist 4294967296 (c : Int) (t : Int)).toNat ∈ L))) := rfl
  rcases dist_cases c t hc ht with h0 | ⟨d, h1, h2, h3, h4⟩
  · rw [decide_eq_true h0] at hi
    generalize Ser.dist 4294967296 (c : Int) (t : Int) = D at hb h0 hi ⊢
    go_wp2
    go_ret
    exact Ser.fin_bool hi.out.symm
  · rw [h3, decide_eq_false (by omega), Int.toNat_natCast] at hi
    rw [h3]
    by_cases h5 : d ≤ 65535
    · have hm := hR.2 d (by omega)
      rw [show (c + d) % 65536 = t % 65536 by have := h4.out; omega] at hm
      go_wp2_with fail
      refine (marked t ht _ hA hR.1).mono ?_
      rintro e w' ⟨rfl, rfl⟩
      rw [hm]
      clear hm
      go_wp2
      go_ret
      refine Ser.fin_bool ?_
      rw [hi.out]; simp
    · go_wp2
      go_ret
      refine Ser.fin_bool ?_
      rw [hi.out]
      simp
      intro hm
      have := hg.2 d hm
      omega

theorem del_ (t : Nat) (ht : t < 4294967296) (w : World) {b c : Nat} {L : List Nat} (h : IsSet w b c L) :
    Calls Tryd.prog 72 #[.pointer (some ⟨b, 0, none⟩), .int .u32 (t : Int)] w fun e w' =>
      e = .returned (.bool (decide ((Ser.dist 4294967296 (c : Int) (t : Int)).toNat ∈ L))) ∧ IsSet w' b c (del (Ser.dist 4294967296 (c : Int) (t : Int)).toNat L) ∧ w.grownBy w' (some b) := by
  have h' := h
  obtain ⟨hc, hg, R, hA, hR⟩ := h
  have hb := Ser.dist32_bounds (c : Int) (t : Int)
  have hin : ∀ d : Nat, d ∉ L → IsSet w b c (del d L) := fun d hd => by
    rw [show del d L = L from List.filter_eq_self.2 fun x hx => by simp; rintro rfl; exact hd hx]
    exact h'
  have h00 : (0 : Nat) ∉ L := fun hm => by have := hg.2 0 hm; omega
  go_enter Tryd.func72, Tryd.ntmps72
  go_wp2_with fail
  refine (has t ht _ h').mono ?_
  rintro e w' ⟨rfl, rfl⟩
  rcases dist_cases c t hc ht with h0 | ⟨d, h1, h2, h3, h4⟩
  · have hi : isIn c L t = true := by unfold isIn; rw [decide_eq_true h0]; rfl
    rw [hi]
    go_wp2_with fail
    refine (distance t ht _ hA hc).mono ?_
    rintro e w' ⟨rfl, rfl⟩
    have hz : Hid ((Ser.dist 4294967296 (c : Int) (t : Int)).toNat = 0) := by unfold Hid; omega
    generalize hD : Ser.dist 4294967296 (c : Int) (t : Int) = D at hb h0
    have HD : Hid (Ser.dist 4294967296 (c : Int) (t : Int) = D) := hD
    go_wp2
    go_ret
    rw [hz.out]
    refine ⟨by rw [decide_eq_false h00]; rfl, hin 0 h00, World.grownBy.refl _ _⟩
  · have hi : isIn c L t = decide (d ∈ L) := by unfold isIn; rw [h3, decide_eq_false (by omega), Int.toNat_natCast]; rfl
    have hz : Hid ((Ser.dist 4294967296 (c : Int) (t : Int)).toNat = d) := by unfold Hid; omega
    rw [hi]
    by_cases hm : d ∈ L
    · rw [decide_eq_true hm]
      go_wp2_with fail
      refine (distance t ht _ hA hc).mono ?_
      rintro e w' ⟨rfl, rfl⟩
      rw [h3]
      have hlen := good_len hg
      have hp : 0 < L.length := List.length_pos_of_mem hm
      have H3 : Hid _ := h3
      clear h3
      go_wp2_with fail
      refine (take t ht _ hA hR.1 (by omega)).mono ?_
      rintro e w' ⟨rfl, hA', hgr⟩
      have hm' : Hid (d ∈ L) := hm
      clear hm hi
      go_wp2
      go_ret
      rw [hz.out, show decide (d ∈ L) = true from decide_eq_true hm'.out]
      refine ⟨rfl, ⟨hc, good_del hg, _, ?_, ring_del hR (by have := hg.2 d hm'.out; omega)⟩, hgr⟩
      have hl := length_del d L hg.1 hm'.out
      rw [show (c + d) % 65536 = t % 65536 by have := h4.out; omega, show (((del d L).length : Nat) : Int) = (L.length : Int) - 1 by omega]
      exact hA'
    · rw [decide_eq_false hm]
      have hm' : Hid (d ∉ L) := hm
      clear hm hi
      go_wp2
      go_ret
      rw [hz.out, show decide (d ∈ L) = false from decide_eq_false hm'.out]
      exact ⟨rfl, hin d hm'.out, World.grownBy.refl _ _⟩

theorem runOn (w : World) {b c : Nat} {L : List Nat} {R : Nat → Nat} (hc : c < 4294967296) (hA : At w b R (L.length : Int) true c) (hR : Ring R c L) (hg : Good 1 L) :
    Calls Tryd.prog 78 #[.pointer (some ⟨b, 0, none⟩)] w fun e w' => e = .returned (.tuple #[]) ∧ IsSet w' b ((c + lead L 0) % 4294967296) (back (lead L 0) L) ∧ w.grownBy w' (some b) := by
  have hlen := good_len hg
  have hle := lead_le L 0
  go_enter Tryd.func78, Tryd.ntmps78
  go_wp2_with fail
  refine (at_ 1 (by decide) _ hA hc).mono ?_
  rintro e w' ⟨rfl, rfl⟩
  go_wp2_with fail
  generalize hN : lead L 0 = n at hle ⊢
  have HN : Hid (lead L 0 = n) := hN
  clear hN
  go_loopw [2] (fun v wr => ∃ k : Nat, k ≤ n ∧ v = .int .u32 (((c + k + 1) % 4294967296 : Nat) : Int) ∧ ∃ R, At wr b R ((back k L).length : Int) true ((c + k) % 4294967296) ∧ Ring R (c + k) (back k L) ∧ w.grownBy wr (some b))
    (fun v wr => ((((c + n + 1 : Nat) : Int) - intOf v) % 4294967296).toNat)
  case atStart => exact ⟨0, by omega, rfl, R, by simpa [back, Nat.mod_eq_of_lt hc] using hA, by simpa [back] using hR, World.grownBy.refl _ _⟩
  case round =>
    obtain ⟨k, hk, rfl, R, hA, hR, hgr⟩ := hrel
    have hgb := good_back hg k (by have := HN.out; omega)
    have hm := hR.2 1 (by decide)
    rw [show (c + k + 1) % 65536 = (c + k + 1) % 4294967296 % 65536 by omega] at hm
    have hlb := length_back L k
    have ht : (c + k + 1) % 4294967296 < 4294967296 := by omega
    generalize hT : (c + k + 1) % 4294967296 = T at ht hm ⊢
    have HT : Hid ((c + k + 1) % 4294967296 = T) := hT
    clear hT
    go_wp2_with fail
    refine (marked T ht _ hA hR.1).mono ?_
    rintro e w' ⟨rfl, rfl⟩
    rw [hm]
    by_cases hlt : k < n
    · obtain ⟨b1, b2, b3⟩ := back_cons hg k (by have := HN.out; omega)
      rw [decide_eq_true b1]
      have hl := length_del 1 _ hgb.1 b1
      have hb2 := length_back L (k + 1)
      have HB : Hid ((del 1 (back k L)).length + 1 = (back k L).length) := hl
      have HC : Hid ((back (k + 1) L).length = L.length - (k + 1)) := hb2
      clear hl hb2 hm
      go_wp2_with fail
      refine (take T ht _ hA hR.1 (by omega)).mono ?_
      rintro e w1 ⟨rfl, hA1, hg1⟩
      have hf := hA1.frozen
      have hcc := hA1.cum
      have hA2 := hA1.setCum T
      go_wp2_with fail
      refine (at_ 1 (by decide) _ hA2 ht).mono ?_
      rintro e w' ⟨rfl, rfl⟩
      go_wp2
      have hT := HT.out
      go_roundw
      case rel =>
        refine ⟨k + 1, by omega, by congr 1; omega, fun k => if k = T % 65536 / 64 then R (T % 65536 / 64) &&& (18446744073709551615 - 2 ^ (T % 65536 % 64)) else R k, ?_, ?_, (hgr.trans hg1).trans (grownBy_set (World.grownBy.refl _ _) _ rfl _)⟩
        · rw [show (((back (k + 1) L).length : Nat) : Int) = ((back k L).length : Int) - 1 by have := HC.out; omega, show (c + (k + 1)) % 4294967296 = T by omega]
          exact hA2
        · have hr := ring_shift (ring_del hR (d := 1) (by decide)) b3
          rw [b2] at hr
          rw [show (c + k + 1) % 65536 = T % 65536 by omega] at hr
          exact hr
      case measure => simp only [intOf]; omega
    · obtain rfl : k = n := by omega
      have hst : 1 ∉ back k L := by have := back_stop hg; rw [HN.out] at this; exact this
      rw [decide_eq_false hst]
      go_wp2
      go_end0
      rw [HN.out]
      refine ⟨rfl, ⟨by omega, good_two hgb hst, R, hA, ring_cong hR (by omega)⟩, hgr⟩

/-- what Add does to the distances: how far cum moves, and those that are above it then -/
def addN (d : Nat) (L : List Nat) : Nat := lead (ins d L) 0
def addL (d : Nat) (L : List Nat) : List Nat := back (addN d L) (ins d L)

theorem add_ (t : Nat) (ht : t < 4294967296) (w : World) {b c : Nat} {L : List Nat} (h : IsSet w b c L) :
    Calls Tryd.prog 67 #[.pointer (some ⟨b, 0, none⟩), .int .u32 (t : Int)] w fun e w' =>
      (isIn c L t = true ∧ e = .returned (.tuple #[.bool false, .int .i64 0]) ∧ w = w') ∨
      (isIn c L t = false ∧ 65535 < Ser.dist 4294967296 (c : Int) (t : Int) ∧ e = .returned (.tuple #[.bool false, .int .i64 31]) ∧ w = w') ∨
      (∃ d : Nat, isIn c L t = false ∧ Ser.dist 4294967296 (c : Int) (t : Int) = d ∧ d ≤ 65535 ∧ 1 ≤ d ∧ d ∉ L ∧ e = .returned (.tuple #[.bool true, .int .i64 0]) ∧ IsSet w' b ((c + addN d L) % 4294967296) (addL d L) ∧ w.grownBy w' (some b)) := by
  have h' := h
  obtain ⟨hc, hg, R, hA, hR⟩ := h
  have hlen := good_len hg
  have hb := Ser.dist32_bounds (c : Int) (t : Int)
  go_enter Tryd.func67, Tryd.ntmps67
  go_wp2_with fail
  refine (unmade _ hA).mono ?_
  rintro e w' ⟨rfl, rfl⟩
  go_wp2_with fail
  refine (has t ht _ h').mono ?_
  rintro e w' ⟨rfl, rfl⟩
  by_cases hin : isIn c L t = true
  · rw [hin]
    have HI : Hid (isIn c L t = true) := hin
    clear hin
    go_wp2
    go_ret2
    exact .inl ⟨HI.out, rfl, rfl⟩
  · have hin' : isIn c L t = false := by simpa using hin
    rw [hin']
    have HI : Hid (isIn c L t = false) := hin'
    clear hin hin'
    go_wp2_with fail
    refine (distance t ht _ hA hc).mono ?_
    rintro e w' ⟨rfl, rfl⟩
    obtain ⟨d, h1, h2, h3, h4⟩ := (dist_cases c t hc ht).resolve_left (fun h0 => by have := HI.out; unfold isIn at this; rw [decide_eq_true h0] at this; cases this)
    have hd : Hid (d ∉ L) := by
      have := HI.out; unfold isIn at this; rw [h3, Int.toNat_natCast] at this
      intro hm; rw [decide_eq_true hm] at this; simp at this
    rw [h3]
    have H3 : Hid (Ser.dist 4294967296 (c : Int) (t : Int) = (d : Int)) := h3
    clear h3
    by_cases h5 : d ≤ 65535
    · go_wp2_with fail
      refine (put t ht _ hA hR.1 (by omega)).mono ?_
      rintro e w1 ⟨rfl, hA1, hg1⟩
      go_wp2_with fail
      have hr := ring_ins hR (d := d) (by omega)
      rw [show (c + d) % 65536 = t % 65536 by have := h4.out; omega] at hr
      have hl := length_ins d L
      rw [show ((L.length : Nat) : Int) + 1 = (((ins d L).length : Nat) : Int) by omega] at hA1
      refine (runOn w1 hc hA1 hr (good_ins hg hd.out ⟨h1, h5⟩ (by decide))).mono ?_
      rintro e w2 ⟨rfl, hS, hg2⟩
      clear hr hA1 hl
      go_wp2
      go_ret2
      exact .inr (.inr ⟨d, HI.out, H3.out, h5, h1, hd.out, rfl, hS, hg1.trans hg2⟩)
    · go_wp2
      go_ret2
      exact .inr (.inl ⟨HI.out, by rw [H3.out]; omega, rfl, rfl⟩)

theorem new_ (c : Nat) (hc : c < 4294967296) (w : World) :
    Calls Tryd.prog 58 #[.int .u32 (c : Int)] w fun e w' => e = .returned (.pointer (some ⟨w.heap.size, 0, none⟩)) ∧ IsSet w' w.heap.size c [] ∧ w.grownBy w' none :=
  (new c hc w).mono fun e w' h => ⟨h.1, ⟨hc, good_nil 2, _, h.2.1, ring_zero c⟩, h.2.2⟩
end Go.Proofs.YtdifceikfnnfeaaDoor.Sp
