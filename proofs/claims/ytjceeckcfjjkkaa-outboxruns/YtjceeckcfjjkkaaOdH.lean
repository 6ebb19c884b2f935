/-
  The document's box: is there a later chunk that came.
  Conditions: the box and the row of truths lie in memory.
-/
import Derived.Test.YtjceeckcfjjkkaaOdG
namespace Go.Proofs.Ytjceeckcfjjkkaa.Ob
open Go.ChangeShapes Go.WideShapes Go.ChangeAt Go.RowKit
open Ba (hidden Has cell_lt heap_lt)
set_option linter.unusedVariables false
section
variable {D F G Q : Nat → Prop} {w w' : World} {r nb : Nat} {v : Value} {P : List CV} {n : Nat} {c : Int} {q : Rq} {L : List Ch} {i g o : Nat} {x y : Ch} {gs : List (Int × Int)} {nl : Nat → Bool}
set_option maxRecDepth 8000 in
set_option maxHeartbeats 2000000 in
theorem r_later (h : Ro D w r v P n c L) (hl : L.length ≤ 1001) (hw : Bw w nb L.length nl) (hi : L[i]? = some x) :
    Calls Try.prog 73 #[.pointer (some ⟨r, 0, none⟩), .slice (some ⟨nb, 0, none⟩) L.length L.length, .int .i64 (i : Int)] w fun e w' => e = .returned (.bool (lat nl L i x.pa x.se)) ∧ Below w.heap.size w w' := by
  have HH := hidden h
  have HW := hidden hw
  have HI0 := hidden hi
  obtain ⟨z, hz⟩ : ∃ z, z = L.length := ⟨_, rfl⟩
  have HZ := hidden hz
  have hil := (List.getElem?_eq_some_iff.1 hi).1
  rw [← hz] at hil hl ⊢
  obtain ⟨gg, go_, capp, aa, ca, hv, _⟩ := h.open hi
  rw [← hz] at hv
  have HV := hidden hv
  have hwi : IntKind.i64.wrap ((i : Int) + 1) = (i : Int) + 1 := by rw [IntKind.wrap_i64]; omega
  have hii : (i : Int) < (z : Int) := by omega
  have HIL := hidden hil
  clear h hw hi hz hv hil
  go_enter Try.func73, Try.ntmps73
  go_wp2_with fail
  go_loopw [7] (fun d X => ∃ k : Nat, d = .int .i64 (k : Int) ∧ i < k ∧ k ≤ z ∧ Hid ((∀ (j : Nat) (y : Ch), i < j → j < k → L[j]? = some y → ¬ (nl j = true ∧ y.pa = x.pa ∧ x.se ≤ y.se)) ∧ Below w.heap.size w X)) (fun d X => z - (intOf d).toNat)
  case atStart => exact ⟨i + 1, by simp, by omega, by have := HIL.out; omega, fun j y h1 h2 => by omega, Below.refl _ _⟩
  case round =>
    obtain ⟨k, rfl, hik, hkz, HI⟩ := hrel
    have hR := HH.out.later HI.out.2
    have c2 := hR.q.cell 2 rfl
    rw [HV.out] at c2
    have hwk : IntKind.i64.wrap ((k : Int) + 1) = (k : Int) + 1 := by rw [IntKind.wrap_i64]; omega
    by_cases hlt : (k : Int) < (z : Int)
    · obtain ⟨y, hy⟩ : ∃ y, L[k]? = some y := ⟨_, List.getElem?_eq_getElem (by rw [← HZ.out]; omega)⟩
      have hb := (HW.out.later HI.out.2).cell (j := k) (by rw [← HZ.out]; omega)
      obtain ⟨g, oo, cap, a1, c1, e, hc, _, _⟩ := hR.open hy
      rw [HV.out, ← HZ.out] at e
      cases e
      obtain ⟨g', oo', cap', a1', c1', e', hc', _, _⟩ := hR.open HI0.out
      rw [HV.out, ← HZ.out] at e'
      cases e'
      have m1 := hc 1 (.int .i64 y.pa) rfl
      have m3 := hc 3 (.int .i64 y.se) rfl
      have n1 := hc' 1 (.int .i64 x.pa) rfl
      have n3 := hc' 3 (.int .i64 x.se) rfl
      have HNO : Hid (¬ (nl k = true ∧ y.pa = x.pa ∧ x.se ≤ y.se) → ∀ (j : Nat) (y : Ch), i < j → j < k + 1 → L[j]? = some y → ¬ (nl j = true ∧ y.pa = x.pa ∧ x.se ≤ y.se)) := fun hno j y' h1 h2 hj => by
        rcases Nat.lt_or_ge j k with h3 | h3
        · exact HI.out.1 j y' h1 h3 hj
        · obtain rfl : j = k := by omega
          rw [hy] at hj
          cases hj
          exact hno
      have HY := hidden hy
      have HLT : Hid (nl k = true → y.pa = x.pa → x.se ≤ y.se → lat nl L i x.pa x.se = true) := fun e1 e2 e3 => lat_iff.2 ⟨k, y, hik, hy, e1, e2, e3⟩
      have HNL : Hid (nl k = nl k) := rfl
      clear hc hc' hR hy
      generalize hnk : nl k = nk at hb HNO HLT
      clear hnk
      cases nk with
      | false =>
        have HNX := hidden (HNO.out (fun e => by cases e.1))
        clear HNO
        go_wp2_with fail
        go_quiet (fail)
        go_wp2
        go_roundw
        case rel => exact ⟨k + 1, by simp, by omega, by omega, HNX.out, Below.drewN HI.out.2 _⟩
        case measure => simp only [intOf]; omega
      | true =>
        by_cases h1 : y.pa = x.pa
        · have h1b : (y.pa == x.pa) = true := by simp [h1]
          by_cases h2 : x.se ≤ y.se
          · have HLE := hidden (HLT.out rfl h1 h2)
            clear HNO
            clear h1
            go_wp2_with fail
            go_quiet (fail)
            go_wp2
            go_ret
            refine ⟨?_, Below.drewN HI.out.2 _⟩
            rw [HLE.out]
            rfl
          · have HNX := hidden (HNO.out (fun e => h2 e.2.2))
            clear HNO h1
            go_wp2_with fail
            go_quiet (fail)
            go_wp2
            go_roundw
            case rel => exact ⟨k + 1, by simp, by omega, by omega, HNX.out, Below.drewN HI.out.2 _⟩
            case measure => simp only [intOf]; omega
        · have h1b : (y.pa == x.pa) = false := by simp [h1]
          have HNX := hidden (HNO.out (fun e => h1 e.2.1))
          clear HNO h1
          go_wp2_with fail
          go_quiet (fail)
          go_wp2
          go_roundw
          case rel => exact ⟨k + 1, by simp, by omega, by omega, HNX.out, Below.drewN HI.out.2 _⟩
          case measure => simp only [intOf]; omega
    · obtain rfl : k = z := by omega
      have hnl : ¬ ((k : Int) < (k : Int)) := by omega
      have HE : Hid (lat nl L i x.pa x.se = false) := by
        show _ = _
        cases hla : lat nl L i x.pa x.se with
        | false => rfl
        | true =>
          obtain ⟨j, y, h1, h2, h3, h4, h5⟩ := lat_iff.1 hla
          exact absurd ⟨h3, h4, h5⟩ (HI.out.1 j y h1 (by have := (List.getElem?_eq_some_iff.1 h2).1; have := HZ.out; omega) h2)
      clear hR
      go_wp2
      go_ret
      refine ⟨?_, HI.out.2⟩
      rw [HE.out]
      rfl
end
end Go.Proofs.Ytjceeckcfjjkkaa.Ob
