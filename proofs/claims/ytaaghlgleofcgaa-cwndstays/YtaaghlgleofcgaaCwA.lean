/-
  Windows: numbers kept within bounds, numbers that rise, a window's four packets.
  Conditions: as at each lemma.
-/
import Derived.Test.YtaaghlgleofcgaaOw
import Derived.Lib.MinMax
import Derived.Deep.Cut
import Derived.Deep.QuietTactic
import Derived.BigQuiet
import Derived.BigRegion
import Derived.Laws.ResultCell
import Derived.Carry
import Derived.Shelf.Abstract
namespace Go.Proofs.Ytaaghlgleofcgaa.Cw
open Go.ChangeShapes Go.WideShapes Go.ChangeAt Go.RowKit
open Ba (hidden Has Only)
open Ow (Own)
set_option linter.unusedVariables false

/-- an operation that its guard holds back -/
theorem ex_not {P : Program} {ops : Array Oper} {Q : Exit → Act → World → Prop} {X : Type} {l : X → List (Option Nat × Value)} {L : Nat → Bool} {i : Nat} {o : Oper} {a : Act} {w : World} {R : X → World → Prop} (x : X) (ho : ops[i]? = some o) (hw : Region.wanted o (yielded ops a.tmps) = false)
    (hv : ((l x).getD i (none, undef)).2 = undef) (hR : R x w) : wpOp P ops Q i (fun a' w'' => ∃ x', a' = a.put o.dst ((l x').getD i (none, undef)).2 ∧ (∀ j, L j = true → (l x')[j]? = (l x)[j]?) ∧ R x' w'') a w := by
  unfold wpOp
  rw [ho]
  simp only [hw]
  exact ⟨x, by rw [hv], fun _ _ => rfl, hR⟩
/-- nothing in memory has turned -/
def Sm (w w' : World) : Prop := w'.heap = w.heap ∧ Below w.heap.size w w'
theorem Sm.refl (w : World) : Sm w w := ⟨rfl, Below.refl _ w⟩
theorem Sm.has {w w' : World} (h : Sm w w') {b : Nat} {cs : Array Value} {t : TypeId} (k : Has w b cs t) : Has w' b cs t := by
  unfold Has
  rw [h.1]
  exact k
theorem Sm.drewN {w w' : World} (h : Sm w w') (n : Nat) : Sm w (w'.drewN n) := ⟨h.1, ⟨h.2.os, h.2.tape, h.2.output, h.2.size, h.2.block⟩⟩
/-- behind w: so many blocks more, these among them -/
def At (w w' : World) (L : List Ow.Bk) (n : Nat) : Prop := Own w w' L ∧ w'.heap.size = w.heap.size + n
theorem At.zero (w : World) : At w w [] 0 := ⟨Own.refl w, rfl⟩
theorem At.drew {w w' : World} {L : List Ow.Bk} {n : Nat} (h : At w w' L n) : At w w'.drew L n := ⟨h.1.drew, h.2⟩
theorem At.same {w w' w2 : World} {L : List Ow.Bk} {n : Nat} (h : At w w' L n) (k : Sm w' w2) : At w w2 L n := ⟨h.1.later k.2, by rw [k.1]; exact h.2⟩
theorem At.more {w w' : World} {L : List Ow.Bk} {n : Nat} (h : At w w' L n) (cs : Array Value) (t : TypeId) : At w (w'.alloc (.cells cs t)) ((w.heap.size + n, cs, t) :: L) (n + 1) := by
  have k := h.1.alloc cs t
  rw [h.2] at k
  refine ⟨k, ?_⟩
  rw [World.size_alloc, h.2]
  omega
theorem At.also {w w' : World} {L : List Ow.Bk} {n : Nat} (h : At w w' L n) (cs : Array Value) (t : TypeId) : At w (w'.alloc (.cells cs t)) L (n + 1) := ⟨(h.more cs t).1.sub fun x hx => List.mem_cons_of_mem _ hx, (h.more cs t).2⟩
theorem At.grow {w w' w2 : World} {L : List Ow.Bk} {n k : Nat} (h : At w w' L n) (hB : Below w'.heap.size w' w2) (hs : w2.heap.size = w'.heap.size + k) : At w w2 L (n + k) := ⟨h.1.later hB, by rw [hs, h.2]; omega⟩
theorem At.below {w w' : World} {L : List Ow.Bk} {n : Nat} (h : At w w' L n) : Below w.heap.size w w' := h.1.below
theorem bs3 {w : World} {N : Nat} (hn : w.heap.size = N) (x y z : Int) : (Instr.buildSlice 57 3 #[(0, .int .i64 x), (1, .int .i64 y), (2, .int .i64 z)]).run Try.prog w = .ok (.slice (some ⟨N, 0, none⟩) 3 3) (w.alloc (.cells #[.int .i64 x, .int .i64 y, .int .i64 z] 3)) := by
  subst hn
  kernel_rfl
theorem bs1 {w : World} {N : Nat} (hn : w.heap.size = N) (x : Int) : (Instr.buildSlice 57 1 #[(0, .int .i64 x)]).run Try.prog w = .ok (.slice (some ⟨N, 0, none⟩) 1 1) (w.alloc (.cells #[.int .i64 x] 3)) := by
  subst hn
  kernel_rfl
theorem keep0 (n l : Int) (w : World) : Calls Try.prog 40 #[.int .i64 n, .int .i64 l, .slice none 0 0] w fun e w' => e = .returned (.int .i64 (max n l)) ∧ w = w' := by
  go_enter Try.func40, Try.ntmps40
  go_wp2
  go_loopw [0, 14] (fun v i wr => v = .int .i64 (max n l) ∧ i = .int .i64 0 ∧ wr = w) (fun _ _ _ => 0)
  case atStart => exact ⟨rfl, rfl, rfl⟩
  case round =>
    obtain ⟨rfl, rfl, rfl⟩ := hrel
    go_wp2
    go_ret
    exact ⟨rfl, rfl⟩
theorem keep1 {w : World} {b : Nat} {x : Int} (h : Has w b #[.int .i64 x] 3) (n l : Int) : Calls Try.prog 40 #[.int .i64 n, .int .i64 l, .slice (some ⟨b, 0, none⟩) 1 1] w fun e w' => e = .returned (.int .i64 (min (max n l) x)) ∧ w = w' := by
  have c0 := h.cell 0 rfl
  clear h
  go_enter Try.func40, Try.ntmps40
  go_wp2
  go_loopw [0, 14] (fun v i wr => (v = .int .i64 (max n l) ∧ i = .int .i64 0 ∧ wr = w) ∨ (v = .int .i64 (min (max n l) x) ∧ i = .int .i64 1 ∧ wr = w)) (fun _ i _ => 1 - (intOf i).toNat)
  case atStart => exact .inl ⟨rfl, rfl, rfl⟩
  case round =>
    rcases hrel with ⟨rfl, rfl, rfl⟩ | ⟨rfl, rfl, rfl⟩
    · go_wp2
      go_roundw
      case rel => exact .inr ⟨rfl, rfl, by trivial⟩
      case measure => simp [intOf]
    · go_wp2
      go_ret
      exact ⟨rfl, rfl⟩
def Le (x y : Int) : Prop := x ≤ y
theorem rise3 {w : World} {b : Nat} {x y z : Int} (h : Has w b #[.int .i64 x, .int .i64 y, .int .i64 z] 3) : Calls Try.prog 42 #[.slice (some ⟨b, 0, none⟩) 3 3] w fun e w' => e = .returned (.bool (decide (x ≤ y ∧ y ≤ z))) ∧ Sm w w' := by
  have H := hidden h
  clear h
  go_enter Try.func42, Try.ntmps42
  go_wp2
  go_loopw [3] (fun i wr => ∃ q : Int, i = .int .i64 q ∧ Hid (Sm w wr) ∧ (q = 1 ∨ (q = 2 ∧ Le x y) ∨ (q = 3 ∧ Le x y ∧ Le y z))) (fun i _ => 3 - (intOf i).toNat)
  case atStart => exact ⟨1, rfl, Sm.refl w, .inl rfl⟩
  case round =>
    obtain ⟨q, rfl, S, hq⟩ := hrel
    have h1 := S.out.has H.out
    have c0 := h1.cell 0 rfl
    have c1 := h1.cell 1 rfl
    have c2 := h1.cell 2 rfl
    clear h1
    rcases hq with rfl | ⟨rfl, hx⟩ | ⟨rfl, hx, hy⟩
    · by_cases e : y < x
      · go_wp2
        go_quiet (fail)
        go_wp2
        go_ret
        exact ⟨by simp; omega, S.out.drewN _⟩
      · go_wp2
        go_quiet (fail)
        go_wp2
        go_roundw
        case rel => exact ⟨2, rfl, S.out.drewN _, .inr (.inl ⟨rfl, by unfold Le; omega⟩)⟩
        case measure => simp [intOf]
    · by_cases e : z < y
      · go_wp2
        go_quiet (fail)
        go_wp2
        go_ret
        exact ⟨by simp; omega, S.out.drewN _⟩
      · go_wp2
        go_quiet (fail)
        go_wp2
        go_roundw
        case rel => exact ⟨3, rfl, S.out.drewN _, .inr (.inr ⟨rfl, hx, by unfold Le; omega⟩)⟩
        case measure => simp [intOf]
    · go_wp2
      go_ret
      exact ⟨by simp; exact ⟨hx, hy⟩, S.out⟩
section
variable (c s p m k : Int) (w : World)
theorem low (hm : 100 ≤ m ∧ m ≤ 1500) : Calls Try.prog 39 #[.agg #[.int .i64 c, .int .i64 s, .int .i64 p, .int .i64 m, .int .i64 k]] w fun e w' => e = .returned (.int .i64 (4 * m)) ∧ w' = w.alloc (.cells #[.int .i64 c, .int .i64 s, .int .i64 p, .int .i64 m, .int .i64 k] 48) := by
  go_enter Try.func39, Try.ntmps39
  go_wp2
  go_ret
  exact ⟨rfl, rfl⟩
theorem slow : Calls Try.prog 43 #[.agg #[.int .i64 c, .int .i64 s, .int .i64 p, .int .i64 m, .int .i64 k]] w fun e w' => e = .returned (.bool (decide (c ≤ s))) ∧ Below w.heap.size w w' := by
  go_enter Try.func43, Try.ntmps43
  go_wp2
  go_ret
  exact ⟨rfl, (Below.refl _ w).alloc (Nat.le_refl _) _⟩
end
end Go.Proofs.Ytaaghlgleofcgaa.Cw
