/-
  What the document's box tells: all that is on its way; what a report's blocks tell.
  Conditions: the box lies in memory.
-/
import Derived.Test.YtjceeckcfjjkkaaOdB
namespace Go.Proofs.Ytjceeckcfjjkkaa.Ob
open Go.ChangeShapes Go.WideShapes Go.ChangeAt Go.RowKit
open Ba (hidden Has cell_lt heap_lt)
set_option linter.unusedVariables false
section
variable {D F G Q : Nat → Prop} {w w' : World} {r : Nat} {v : Value} {P : List CV} {n : Nat} {c : Int} {L : List Ch} {i g o : Nat} {x y : Ch} {gs : List (Int × Int)}
theorem r_total (h : Ro D w r v P n c L) (hk : Lk n L) (hn : n ≤ 8) : Calls Try.prog 37 #[.pointer (some ⟨r, 0, none⟩)] w fun e w' => e = .returned (.int .i64 (tot (fun k => fl L k) n)) ∧ Below w.heap.size w w' := by
  have HH := hidden h
  have HK := hidden hk
  have HF := hidden (fun s X (hB : Below w.heap.size w X) => r_flying (HH.out.later hB) hk s)
  have HB : Hid (∀ k, k < n → 0 ≤ fl L (k : Int) ∧ fl L (k : Int) ≤ 1099511627776) := fun k _ => by have := hk.fl (k : Int); omega
  clear h hk
  go_enter Try.func37, Try.ntmps37
  go_wp2_with fail
  go_loopw [3, 4] (fun a d X => ∃ k : Nat, d = .int .i64 (k : Int) ∧ a = .int .i64 (tot (fun k => fl L k) k) ∧ k ≤ n ∧ Hid (Below w.heap.size w X)) (fun a d X => n - (intOf d).toNat)
  case atStart => exact ⟨0, rfl, rfl, Nat.zero_le _, Below.refl _ _⟩
  case round =>
    obtain ⟨k, rfl, rfl, hk, HI⟩ := hrel
    have c0 := (HH.out.later HI.out).q.cell 0 rfl
    by_cases hkn : k = n
    · subst hkn
      have hnl : ¬ ((k : Int) < (k : Int)) := by omega
      go_wp2
      go_ret
      exact ⟨rfl, HI.out⟩
    · have hlt : (k : Int) < (n : Int) := by omega
      have FK := hidden (HF.out (k : Int) wr HI.out)
      have hb := tot_bound HB.out k (by omega)
      have hb2 := HB.out k (by omega)
      have hw : IntKind.i64.wrap (tot (fun k => fl L k) k + fl L k) = tot (fun k => fl L k) k + fl L k := by rw [IntKind.wrap_i64]; omega
      have hw2 : IntKind.i64.wrap ((k : Int) + 1) = (k : Int) + 1 := by rw [IntKind.wrap_i64]; omega
      have HT : Hid (tot (fun k => fl L k) k + fl L k = tot (fun k => fl L k) (k + 1)) := rfl
      generalize tot (fun k => fl L k) k = tk at *
      generalize fl L (k : Int) = fk at *
      clear hb hb2
      go_wp2_with fail
      refine Calls.mono FK.out ?_
      rintro e X ⟨rfl, hB⟩
      go_wp2
      go_roundw
      case rel => exact ⟨k + 1, by simp, by rw [← HT.out], by omega, HI.out.trans (hB.mono HI.out.size)⟩
      case measure => simp only [intOf]; omega
theorem ins_take {d : Int} {k : Nat} {a b : Int} (h : gs[k]? = some (a, b)) : ins (gs.take (k + 1)) d = (ins (gs.take k) d || (decide (a ≤ d) && decide (d ≤ b))) := by
  unfold ins
  rw [List.take_add_one, h, List.any_append]
  simp
theorem ins_true {d : Int} {k : Nat} (h : ins (gs.take k) d = true) : ins gs d = true := by
  unfold ins at *
  rw [List.any_eq_true] at *
  obtain ⟨g, h1, h2⟩ := h
  exact ⟨g, List.mem_of_mem_take h1, h2⟩
/-- does a distance lie in a block -/
theorem r_inside (h : Gp Q w v gs) (d : Int) : Calls Try.prog 86 #[v, .int .i64 d] w fun e w' => e = .returned (.bool (ins gs d)) ∧ w = w' := by
  have H := hidden h
  obtain ⟨a, cap, rfl, hl⟩ := h.slice
  clear h
  generalize hn : gs.length = n at hl
  have HN := hidden hn
  clear hn
  go_enter Try.func86, Try.ntmps86
  go_wp2_with fail
  go_loopw [5] (fun i X => ∃ k : Nat, k ≤ n ∧ i = .int .i64 k ∧ Hid (ins (gs.take k) d = false) ∧ w = X) (fun i _ => n - (intOf i).toNat)
  case atStart => exact ⟨0, Nat.zero_le _, rfl, rfl, rfl⟩
  case round =>
    obtain ⟨k, hk, rfl, hins, rfl⟩ := hrel
    rcases Nat.lt_or_ge k n with hlt | hge
    · obtain ⟨b, off, cap', s, e, hv, _, hgk, c1, c2, hs0, hs1, he0, he1⟩ := H.out.get (k := k) (by rw [HN.out]; exact hlt)
      cases hv
      have HO := hidden (ins_take (d := d) hgk)
      have hlt' : (k : Int) < (n : Int) := by omega
      have hwk : IntKind.i64.wrap ((k : Int) + 1) = (k : Int) + 1 := by rw [IntKind.wrap_i64]; omega
      clear hgk
      by_cases h0 : s ≤ d
      · by_cases h1 : d ≤ e
        · go_wp2
          go_ret
          refine ⟨?_, by trivial⟩
          rw [ins_true (k := k + 1) (by rw [HO.out]; simp [h0, h1])]
          rfl
        · have hz : Hid (ins (gs.take (k + 1)) d = false) := (by rw [HO.out, hins.out]; simp [h1] : ins (gs.take (k + 1)) d = false)
          go_wp2
          go_roundw
          case rel => exact ⟨k + 1, by omega, by simp, hz, by trivial⟩
          case measure => simp only [intOf]; omega
      · have h0' : d < s := by omega
        have hz : Hid (ins (gs.take (k + 1)) d = false) := (by rw [HO.out, hins.out]; simp [h0] : ins (gs.take (k + 1)) d = false)
        go_wp2
        go_roundw
        case rel => exact ⟨k + 1, by omega, by simp, hz, by trivial⟩
        case measure => simp only [intOf]; omega
    · obtain rfl : n = k := by omega
      have HO := hins.out
      rw [List.take_of_length_le (by have := HN.out; omega)] at HO
      have hnl : ¬ ((n : Int) < (n : Int)) := by omega
      have HO := hidden HO
      go_wp2
      go_ret
      refine ⟨?_, by trivial⟩
      first | rfl | (rw [HO.out]; rfl)
/-- are a report's blocks in order -/
theorem r_order (h : Gp Q w v gs) : Calls Try.prog 65 #[v] w fun e w' => e = .returned (.bool (ord gs)) ∧ Below w.heap.size w w' := by
  have H := hidden h
  obtain ⟨a, cap, rfl, hl⟩ := h.slice
  clear h
  generalize hn : gs.length = n at hl
  have HN := hidden hn
  clear hn
  go_enter Try.func65, Try.ntmps65
  go_wp2_with fail
  go_loopw [3] (fun i X => ∃ k : Nat, k ≤ n ∧ i = .int .i64 k ∧ Hid (ord (gs.take k) = true ∧ Below w.heap.size w X)) (fun i _ => n - (intOf i).toNat)
  case atStart => exact ⟨0, Nat.zero_le _, rfl, rfl, Below.refl _ _⟩
  case round =>
    obtain ⟨k, hk, rfl, HI⟩ := hrel
    rcases Nat.lt_or_ge k n with hlt | hge
    · obtain ⟨b, off, cap', s, e, hv, _, hgk, c1, c2, hs0, hs1, he0, he1⟩ := (H.out.later HI.out.2).get (k := k) (by rw [HN.out]; exact hlt)
      cases hv
      have HO := hidden (ord_take hgk)
      have HO2 := HO.out
      rw [HI.out.1] at HO2
      have HO := hidden HO2
      have hlt' : (k : Int) < (n : Int) := by omega
      have hwk : IntKind.i64.wrap ((k : Int) + 1) = (k : Int) + 1 := by rw [IntKind.wrap_i64]; omega
      clear hgk HO2
      by_cases h0 : s = 0
      · subst h0
        go_wp2_with fail
        go_quiet (fail)
        go_wp2
        go_ret
        refine ⟨?_, Below.drewN HI.out.2 _⟩
        rw [ord_false (k := k + 1) (by rw [HO.out]; simp)]
        rfl
      · have hsb : (s == 0) = false := by simp [h0]
        by_cases h1 : s ≤ e
        · have h2 : ¬ e < s := by omega
          go_wp2_with fail
          go_quiet (fail)
          go_wp2
          go_roundw
          case rel => exact ⟨k + 1, by omega, by simp, by rw [HO.out]; simp [h0, h1], Below.drewN HI.out.2 _⟩
          case measure => simp only [intOf]; omega
        · have h2 : e < s := by omega
          go_wp2_with fail
          go_quiet (fail)
          go_wp2
          go_ret
          refine ⟨?_, Below.drewN HI.out.2 _⟩
          rw [ord_false (k := k + 1) (by rw [HO.out]; simp [h1])]
          rfl
    · obtain rfl : n = k := by omega
      have HO := HI.out.1
      rw [List.take_of_length_le (by have := HN.out; omega)] at HO
      have hnl : ¬ ((n : Int) < (n : Int)) := by omega
      have HO := hidden HO
      go_wp2
      go_ret
      refine ⟨?_, HI.out.2⟩
      first | rfl | (rw [HO.out]; rfl)
end
end Go.Proofs.Ytjceeckcfjjkkaa.Ob
