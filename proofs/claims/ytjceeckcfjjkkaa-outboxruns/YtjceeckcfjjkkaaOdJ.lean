/-
  The document's comparison of two reports that are alike.
  Conditions: both lie in memory.
-/
import Derived.Test.YtjceeckcfjjkkaaOdI
namespace Go.Proofs.Ytjceeckcfjjkkaa.Ob
open Go.ChangeShapes Go.WideShapes Go.ChangeAt Go.RowKit
open Ba (hidden Has cell_lt heap_lt)
set_option linter.unusedVariables false
section
variable {w w' : World} {b b' n : Nat} {ak : Nat → Ak}
set_option maxRecDepth 8000 in
set_option maxHeartbeats 2000000 in
theorem r_same_report (h : Aw w b n ak) (h' : Aw w b' n ak) (hn : n ≤ 8) (c1 c2 : Nat) (hc1 : n ≤ c1) (hc2 : n ≤ c2) (fr rn : Int) :
    Calls Try.prog 33 #[.agg #[.slice (some ⟨b, 0, none⟩) n c1, .int .i64 fr, .int .i64 rn], .agg #[.slice (some ⟨b', 0, none⟩) n c2, .int .i64 fr, .int .i64 rn]] w fun e w' => e = .returned (.bool true) ∧ Below w.heap.size w w' := by
  obtain ⟨W0, hW0⟩ : ∃ W0, W0 = (w.alloc (.cells #[.slice (some ⟨b, 0, none⟩) n c1, .int .i64 fr, .int .i64 rn] 34)).alloc (.cells #[.slice (some ⟨b', 0, none⟩) n c2, .int .i64 fr, .int .i64 rn] 34) := ⟨_, rfl⟩
  have hO0 : Ow.Own w W0 [(w.heap.size + 1, #[.slice (some ⟨b', 0, none⟩) n c2, .int .i64 fr, .int .i64 rn], 34), (w.heap.size, #[.slice (some ⟨b, 0, none⟩) n c1, .int .i64 fr, .int .i64 rn], 34)] := by
    have := ((Ow.Own.refl w).alloc #[.slice (some ⟨b, 0, none⟩) n c1, .int .i64 fr, .int .i64 rn] 34).alloc #[.slice (some ⟨b', 0, none⟩) n c2, .int .i64 fr, .int .i64 rn] 34
    simp only [World.size_alloc] at this
    rw [hW0]
    exact this
  have HA := hidden (And.intro (h.later hO0.below) (h'.later hO0.below))
  have HO := hidden hO0
  have HW0 := hidden hW0
  clear h h' hW0 hO0
  go_enter Try.func33, Try.ntmps33
  go_wp2_with fail
  rw [← HW0.out]
  go_loopw [5] (fun d X => ∃ k : Nat, d = .int .i64 (k : Int) ∧ k ≤ n ∧ Hid (Below W0.heap.size W0 X)) (fun d X => n - (intOf d).toNat)
  case atStart => exact ⟨0, rfl, Nat.zero_le _, Below.refl _ _⟩
  case round =>
    obtain ⟨k, rfl, hkz, HI⟩ := hrel
    have hwk : IntKind.i64.wrap ((k : Int) + 1) = (k : Int) + 1 := by rw [IntKind.wrap_i64]; omega
    have p0 := (HO.out.later HI.out).cell (b := w.heap.size) (List.mem_cons_of_mem _ (List.mem_cons_self ..)) 0 rfl
    have q0 := (HO.out.later HI.out).cell (b := w.heap.size + 1) (List.mem_cons_self ..) 0 rfl
    by_cases hlt : (k : Int) < (n : Int)
    · obtain ⟨e0, e1, e2, e3⟩ := (HA.out.1.later HI.out).cells (j := k) (by omega)
      obtain ⟨f0, f1, f2, f3⟩ := (HA.out.2.later HI.out).cells (j := k) (by omega)
      generalize (ak k).by_ = x0 at *
      generalize (ak k).mv = x1 at *
      generalize (ak k).tr = x2 at *
      generalize (ak k).lo = x3 at *
      go_wp2_with fail
      go_quiet (fail)
      go_wp2
      go_roundw
      case rel => exact ⟨k + 1, by simp, by omega, Below.drewN HI.out _⟩
      case measure => simp only [intOf]; omega
    · obtain rfl : k = n := by omega
      have hnl : ¬ ((k : Int) < (k : Int)) := by omega
      go_wp2
      go_ret
      exact ⟨rfl, HO.out.below.trans (HI.out.mono HO.out.below.size)⟩
theorem r_same_none (fr rn : Int) (w : World) :
    Calls Try.prog 33 #[.agg #[.slice none 0 0, .int .i64 fr, .int .i64 rn], .agg #[.slice none 0 0, .int .i64 fr, .int .i64 rn]] w fun e w' => e = .returned (.bool true) ∧ Below w.heap.size w w' := by
  obtain ⟨W0, hW0⟩ : ∃ W0, W0 = (w.alloc (.cells #[.slice none 0 0, .int .i64 fr, .int .i64 rn] 34)).alloc (.cells #[.slice none 0 0, .int .i64 fr, .int .i64 rn] 34) := ⟨_, rfl⟩
  have hO0 : Ow.Own w W0 [(w.heap.size + 1, #[.slice none 0 0, .int .i64 fr, .int .i64 rn], 34), (w.heap.size, #[.slice none 0 0, .int .i64 fr, .int .i64 rn], 34)] := by
    have := ((Ow.Own.refl w).alloc #[.slice none 0 0, .int .i64 fr, .int .i64 rn] 34).alloc #[.slice none 0 0, .int .i64 fr, .int .i64 rn] 34
    simp only [World.size_alloc] at this
    rw [hW0]
    exact this
  have HO := hidden hO0
  have HW0 := hidden hW0
  clear hW0 hO0
  go_enter Try.func33, Try.ntmps33
  go_wp2_with fail
  rw [← HW0.out]
  go_loopw [5] (fun d X => d = .int .i64 0 ∧ X = W0) (fun d X => 0)
  case atStart => exact ⟨rfl, rfl⟩
  case round =>
    obtain ⟨rfl, rfl⟩ := hrel
    have p0 := HO.out.cell (b := w.heap.size) (List.mem_cons_of_mem _ (List.mem_cons_self ..)) 0 rfl
    go_wp2
    go_ret
    exact ⟨rfl, HO.out.below⟩
end
end Go.Proofs.Ytjceeckcfjjkkaa.Ob
