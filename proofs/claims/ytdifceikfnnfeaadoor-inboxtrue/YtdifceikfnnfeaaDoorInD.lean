/-
  Numbers are fixed; what came and is not fixed; the rows that are told.
  Conditions: the box was made by the package.
-/
import Derived.Test.YtdifceikfnnfeaaDoorInC
namespace Go.Proofs.YtdifceikfnnfeaaDoor.Sp.Inb
open Go.ChangeShapes Go.WideShapes Go.ChangeAt Go.RowKit
open Ba (hidden Has cell_lt heap_lt)
set_option linter.unusedVariables false
set_option maxRecDepth 20000
section
variable {n0 : Nat} {w : World} {b bc bf : Nat} {v : Value} {s : St} {K : Nat}
theorem in_L {c t : Nat} {L : List Nat} (hL : Good 2 L) (h : isIn c L t = true) : ds c t ≤ 0 ∨ (ds c t).toNat ∈ L := by
  unfold isIn at h
  rcases Bool.or_eq_true _ _ ▸ h with e | e
  · exact .inl (of_decide_eq_true e)
  · exact .inr (of_decide_eq_true e)
theorem out_L {c t : Nat} {L : List Nat} (h : isIn c L t = false) : 0 < ds c t ∧ (ds c t).toNat ∉ L := by
  unfold isIn at h
  rw [Bool.or_eq_false_iff] at h
  exact ⟨by have := of_decide_eq_false h.1; unfold ds; omega, of_decide_eq_false h.2⟩
theorem fix_ (h : Cd n0 w b bc bf v s) (hk : Ok K s) (t : Nat) (ht : t < 4294967296) :
    Calls Tryd.prog 51 #[.pointer (some ⟨b, 0, none⟩), .int .u32 (t : Int)] w fun e w' => e = .returned (.bool (free t s)) ∧ Cd n0 w' b bc bf v (fixS t s) ∧ Mod (FC b bc bf v) w w' := by
  obtain ⟨z, hq, hz, hz1, c0, c1, c2, c3, c4, c5, c6, c7, hf⟩ := h.cells
  have HA := hidden (has t ht w h.a)
  have hD0 : 0 ∉ s.L := fun hm => by have := hk.L.2 0 hm; omega
  have same : free t s = false → fixS t s = s ∧ (Cd n0 w b bc bf v s ∧ Mod (FC b bc bf v) w w) := fun e => ⟨by unfold fixS; rw [if_neg (by rw [e]; simp)], h, Mod.refl _ _⟩
  cases hin : isIn s.c s.L t with
  | false =>
    have e1 : free t s = false := free_not.2 (.inl (out_L hin).2)
    obtain ⟨e2, fn⟩ := same e1
    rw [e1, e2]
    have FN := hidden fn
    rw [hin] at HA
    clear h hk hq hz hD0 e1 e2 hin same fn
    generalize (t : Int) = tI at *
    go_enter Tryd.func51, Tryd.ntmps51
    go_wp2_with fail
    refine Calls.mono HA.out ?_
    rintro e w' ⟨rfl, rfl⟩
    go_wp2
    go_ret
    exact ⟨rfl, FN.out⟩
  | true =>
    have AD : Hid (Calls Tryd.prog 67 #[.pointer (some ⟨bf, 0, none⟩), .int .u32 (t : Int)] w fun e w' => ∃ z : Int, e = .returned (.tuple #[.bool (free t s), .int .i64 z]) ∧ Cd n0 w' b bc bf v (fixS t s) ∧ Mod (FC b bc bf v) w w') := (add_ t ht w h.f).mono (by
      rintro e w' (⟨hi, rfl, rfl⟩ | ⟨hi, hfar, rfl, rfl⟩ | ⟨d, hi, hd, h1, h2, h3, rfl, hS, hg⟩)
      · have e1 : free t s = false := free_not.2 (by
          rcases in_L hk.F hi with e | e
          · left; rw [show (ds s.c t).toNat = 0 by omega]; exact hD0
          · exact .inr e)
        obtain ⟨e2, fn⟩ := same e1
        rw [e1, e2]
        exact ⟨_, rfl, fn⟩
      · exfalso
        have hfar' : 65535 < ds s.c t := hfar
        rcases in_L hk.L hin with e | e
        · omega
        · have := hk.L.2 _ e; omega
      · have hd' : ds s.c t = (d : Int) := hd
        have hm : d ∈ s.L := by
          rcases in_L hk.L hin with e | e
          · omega
          · rw [hd', Int.toNat_natCast] at e; exact e
        have hd2 := (hk.L.2 d hm).1
        obtain ⟨a1, a2⟩ := add_two hk.F hd2
        have e1 : free t s = true := free_iff.2 (by rw [hd', Int.toNat_natCast]; exact ⟨hm, h3⟩)
        have e2 : fixS t s = { s with F := ins d s.F } := by unfold fixS; rw [if_pos e1, hd', Int.toNat_natCast]
        rw [a1, a2, show (s.c + 0) % 4294967296 = s.c by have := hk.c; omega] at hS
        rw [e1, e2]
        exact ⟨_, rfl, fix_fin h hS hg⟩)
    rw [hin] at HA
    clear h hk hq hz hD0 hin same
    generalize free t s = B at *
    generalize (t : Int) = tI at *
    go_enter Tryd.func51, Tryd.ntmps51
    go_wp2_with fail
    refine Calls.mono HA.out ?_
    rintro e w' ⟨rfl, rfl⟩
    go_wp2_with fail
    refine Calls.mono AD.out ?_
    rintro e w' ⟨z, rfl, hC, hM⟩
    go_wp2
    go_ret
    exact ⟨rfl, hC, hM⟩
theorem Mod.twice {F : Nat → Prop} {x y z : World} (h : Mod F x y) (k : Mod F y z) : Mod F x z := h.trans k fun _ hx => .inl hx
theorem nf_some {l : List Nat} {k x : Nat} (h : l[k]? = some x) : nf l k = (x : Int) := by unfold nf; rw [List.getD_eq_getElem?_getD, h]; rfl
theorem take_some {l : List Nat} {k x : Nat} (h : l[k]? = some x) : l.take (k + 1) = l.take k ++ [x] := by rw [List.take_add_one, h]; rfl
theorem nf_at {l : List Nat} {k : Nat} (hk : k < l.length) : nf l k = (l[k] : Nat) := by unfold nf; rw [List.getD_eq_getElem?_getD, List.getElem?_eq_getElem hk]; rfl
theorem take_one {l : List Nat} {k : Nat} (hk : k < l.length) : l.take (k + 1) = l.take k ++ [l[k]] := by rw [List.take_add_one, List.getElem?_eq_getElem hk]; rfl
/-- numbers are fixed, one by one -/
theorem Fix_ (h : Cd n0 w b bc bf v s) (hk : Ok K s) (l : List Nat) (hl : ∀ t ∈ l, t < 4294967296) (hn : l.length ≤ 140737488355328) (a : Option Addr) (cap : Nat) (HR : ∀ w', Mod (FC b bc bf v) w w' → Nums w' (.slice a l.length cap) l.length (nf l)) :
    Calls Tryd.prog 25 #[.pointer (some ⟨b, 0, none⟩), .slice a l.length cap] w fun e w' => e = .returned (.int .i64 (fixN l s)) ∧ Cd n0 w' b bc bf v (fixAll l s) ∧ Mod (FC b bc bf v) w w' := by
  have UM := hidden (unmade_ h)
  have H0 := hidden h
  have HR := hidden HR
  clear h
  obtain ⟨N, hN⟩ : ∃ N, Hid (l.length = N) := ⟨_, rfl⟩
  rw [hN.out] at hn ⊢
  go_enter Tryd.func25, Tryd.ntmps25
  go_wp2_with fail
  refine Calls.mono UM.out ?_
  rintro e w' ⟨rfl, rfl⟩
  go_wp2_with fail
  go_loopw [5, 12] (fun an i wr => ∃ k : Nat, k ≤ N ∧ i = .int .i64 (k : Int) ∧ an = .int .i64 (fixN (l.take k) s) ∧ Cd n0 wr b bc bf v (fixAll (l.take k) s) ∧ Mod (FC b bc bf v) w wr) (fun an i wr => N - (intOf i).toNat)
  case atStart => exact ⟨0, by omega, rfl, rfl, H0.out, Mod.refl _ _⟩
  case round =>
    obtain ⟨k, hkN, rfl, rfl, hC, hM⟩ := hrel
    have hb := fixN_bound (l.take k) s
    rw [List.length_take] at hb
    by_cases hlt : k < N
    · have hkl : k < l.length := by rw [hN.out]; exact hlt
      have hrow := HR.out wr hM
      obtain ⟨x, hx⟩ : ∃ x, l[k]? = some x := ⟨_, List.getElem?_eq_getElem hkl⟩
      obtain ⟨rb, off, rfl, hrb, hc⟩ := Nums.nat hrow hkl
      rw [nf_some hx] at hc
      have FX := hidden (fix_ hC (fixAll_ok hk) x (hl _ (List.mem_of_getElem? hx)))
      have E1 := hidden (show fixS x (fixAll (l.take k) s) = fixAll (l.take (k + 1)) s by rw [take_some hx, fixAll_snoc])
      have E2 := hidden (show fixN (l.take k) s + (if free x (fixAll (l.take k) s) = true then 1 else 0) = fixN (l.take (k + 1)) s by rw [take_some hx, fixN_snoc])
      have hlt' : (k : Int) < (N : Int) := by omega
      rw [E1.out] at FX
      have HB := hidden (show (0 ≤ fixN (l.take (k + 1)) s ∧ fixN (l.take (k + 1)) s ≤ 140737488355328) by have := fixN_bound (l.take (k + 1)) s; rw [List.length_take] at this; omega)
      have HM := hidden hM
      generalize (x : Int) = tI at *
      generalize fixN (l.take k) s = A at *
      clear hC hM hrow E1 hx hkl
      cases hfr : free x (fixAll (l.take k) s) with
      | true =>
        rw [hfr] at FX
        have E3 := E2.out
        rw [hfr, if_pos rfl] at E3
        have HX := HB.out
        rw [← E3] at HX
        have hw : IntKind.i64.wrap (A + 1) = A + 1 := by rw [IntKind.wrap_i64]; omega
        clear E2 hfr HB
        go_wp2_with fail
        refine Calls.mono FX.out ?_
        rintro e w1 ⟨rfl, hC1, hM1⟩
        go_wp2
        go_roundw
        case rel => exact ⟨k + 1, hlt, rfl, by first | rfl | rw [E3], hC1, Mod.twice HM.out hM1⟩
        case measure => simp only [intOf]; omega
      | false =>
        rw [hfr] at FX
        have E3 := E2.out
        rw [hfr, if_neg (by simp), Int.add_zero] at E3
        clear E2 hfr HB
        go_wp2_with fail
        refine Calls.mono FX.out ?_
        rintro e w1 ⟨rfl, hC1, hM1⟩
        go_wp2
        go_roundw
        case rel => exact ⟨k + 1, hlt, rfl, by first | rfl | rw [E3], hC1, Mod.twice HM.out hM1⟩
        case measure => simp only [intOf]; omega
    · obtain rfl : k = N := by omega
      have e1 : l.take k = l := by rw [← hN.out]; exact List.take_length
      rw [e1] at hC hb ⊢
      have HC := hidden (⟨hC, hM⟩ : Cd n0 wr b bc bf v (fixAll l s) ∧ Mod (FC b bc bf v) w wr)
      clear hC hM
      go_wp2
      go_ret
      exact ⟨rfl, HC.out⟩
end
end Go.Proofs.YtdifceikfnnfeaaDoor.Sp.Inb
