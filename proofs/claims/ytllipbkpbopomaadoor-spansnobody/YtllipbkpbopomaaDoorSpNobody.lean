/-
  What a set that nobody made answers: nothing.
  Conditions: it is nil, or all of its cells are zero.
-/
import Derived.Test.YtllipbkpbopomaaDoorSpTop
namespace Go.Proofs.YtllipbkpbopomaaDoor.Sp
open Go.RowKit Go.Shelf Go.ChangeShapes Go.WideShapes Go.ChangeAt
set_option linter.unusedVariables false

/-- a set that nobody made -/
def Nobody (w : World) (p : Option Addr) : Prop := p = none ∨ ∃ b, p = some ⟨b, 0, none⟩ ∧ At w b (fun _ => 0) 0 false 0
theorem Nobody.below {w w' : World} {p : Option Addr} (h : Nobody w p) (hB : Below w.heap.size w w') : Nobody w' p := by
  rcases h with h | ⟨b, rfl, hA⟩
  · exact .inl h
  · exact .inr ⟨b, rfl, hA.of_block (hB.block b hA.lt)⟩

theorem unmadeN {w : World} {p : Option Addr} (h : Nobody w p) : Calls Tryd.prog 35 #[.pointer p] w fun e w' => e = .returned (.bool true) ∧ w = w' := by
  rcases h with rfl | ⟨b, rfl, hA⟩
  · exact unmadeNil w
  · exact unmade w hA
theorem cumN {w : World} {p : Option Addr} (h : Nobody w p) : Calls Tryd.prog 29 #[.pointer p] w fun e w' => e = .returned (.int .u32 ((0 : Nat) : Int)) ∧ w = w' := by
  rcases h with rfl | ⟨b, rfl, hA⟩
  · exact cumNil w
  · exact cum w hA
theorem countN {w : World} {p : Option Addr} (h : Nobody w p) : Calls Tryd.prog 34 #[.pointer p] w fun e w' => e = .returned (.int .i64 0) ∧ w = w' := by
  rcases h with rfl | ⟨b, rfl, hA⟩
  · exact countNil w
  · exact count w hA
theorem hasN (t : Int) {w : World} {p : Option Addr} (h : Nobody w p) : Calls Tryd.prog 16 #[.pointer p, .int .u32 t] w fun e w' => e = .returned (.bool false) ∧ w = w' := by
  go_enter Tryd.func16, Tryd.ntmps16
  go_wp2_with fail
  refine (unmadeN h).mono ?_
  rintro e w' ⟨rfl, rfl⟩
  go_wp2
  go_ret
  exact Ser.fin_bool rfl
theorem addN_ (t : Int) {w : World} {p : Option Addr} (h : Nobody w p) : Calls Tryd.prog 12 #[.pointer p, .int .u32 t] w fun e w' => e = .returned (.tuple #[.bool false, .int .i64 4]) ∧ w = w' := by
  go_enter Tryd.func12, Tryd.ntmps12
  go_wp2_with fail
  refine (unmadeN h).mono ?_
  rintro e w' ⟨rfl, rfl⟩
  go_wp2
  go_ret2
  exact ⟨rfl, rfl⟩
theorem delN (t : Int) {w : World} {p : Option Addr} (h : Nobody w p) : Calls Tryd.prog 14 #[.pointer p, .int .u32 t] w fun e w' => e = .returned (.bool false) ∧ w = w' := by
  go_enter Tryd.func14, Tryd.ntmps14
  go_wp2_with fail
  refine (hasN t h).mono ?_
  rintro e w' ⟨rfl, rfl⟩
  go_wp2
  go_ret
  exact Ser.fin_bool rfl
theorem behindN {w : World} {p : Option Addr} (h : Nobody w p) : Behind w p 0 [] := by
  refine ⟨?_, ⟨Nat.zero_le _, by simp⟩, fun h => absurd rfl h⟩
  rcases h with rfl | ⟨b, rfl, hA⟩
  · exact hands_nil _ w
  · exact hands_zero hA hA.lt
theorem highN {w : World} {p : Option Addr} (h : Nobody w p) : Calls Tryd.prog 32 #[.pointer p] w fun e w' => e = .returned (.int .u32 0) ∧ Below w.heap.size w w' :=
  high_ w p 0 [] (behindN h) (by decide) (cumN (h.below ((Below.refl _ w).alloc (Nat.le_refl _) _)))
theorem allN {w : World} {p : Option Addr} (h : Nobody w p) : Calls Tryd.prog 30 #[.pointer p] w fun e w' => ∃ a cap, e = .returned (.slice a 0 cap) ∧ Below w.heap.size w w' :=
  (all_ w p 0 [] (behindN h)).mono fun e w' ⟨v, h1, h2, h3⟩ => by obtain ⟨a, cap, rfl⟩ := row_len h2; exact ⟨a, cap, h1, h3⟩
theorem gapsN (n : Int) {w : World} {p : Option Addr} (h : Nobody w p) : Calls Tryd.prog 19 #[.pointer p, .int .i64 n] w fun e w' => ∃ a cap, e = .returned (.slice a 0 cap) ∧ Below w.heap.size w w' :=
  (gaps_ w p 0 [] (behindN h) n).mono fun e w' ⟨v, h1, h2, h3⟩ => by rw [List.take_nil] at h2; obtain ⟨a, cap, rfl⟩ := row_len h2; exact ⟨a, cap, h1, h3⟩
theorem missingN (n : Int) (hn : -9223372036854775808 ≤ n ∧ n ≤ 9223372036854775807) {w : World} {p : Option Addr} (h : Nobody w p) : Calls Tryd.prog 22 #[.pointer p, .int .i64 n] w fun e w' => ∃ a cap, e = .returned (.slice a 0 cap) ∧ Below w.heap.size w w' :=
  (missing_ w p 0 [] (behindN h) n hn).mono fun e w' ⟨v, h1, h2, h3⟩ => by rw [miss, List.take_nil] at h2; obtain ⟨a, cap, rfl⟩ := row_len h2; exact ⟨a, cap, h1, h3⟩
theorem zero_set (w : World) : At (w.alloc (.cells Tryd.zeroCells68 68)) w.heap.size (fun _ => 0) 0 false 0 := by
  have hs : Tryd.zeroCells68.size = 1027 := by rw [← Array.length_toList, zeros_eq, List.length_append, List.length_replicate]; rfl
  refine ⟨_, heap_alloc_new w _, hs, fun i hi => ?_, ?_, ?_, ?_⟩
  · rw [zeros_at, List.getElem?_append_left (by rw [List.length_replicate]; exact hi), List.getElem?_replicate, if_pos hi]; rfl
  · rw [zeros_at, List.getElem?_append_right (by rw [List.length_replicate]; exact Nat.le_refl _), List.length_replicate]; rfl
  · rw [zeros_at, List.getElem?_append_right (by rw [List.length_replicate]; decide), List.length_replicate]; rfl
  · rw [zeros_at, List.getElem?_append_right (by rw [List.length_replicate]; decide), List.length_replicate]; rfl
end Go.Proofs.YtllipbkpbopomaaDoor.Sp
