/-
  Two rows of blocks held against one another; all that is told of a set and of the document's set, held against one another.
  Conditions: both sets stand for the same cum and distances.
-/
import Derived.Test.YtdifceikfnnfeaaDoorSpRefA
import Derived.Test.YtdifceikfnnfeaaDoorSpRefD
import Derived.Deep.RegionWith
namespace Go.Proofs.YtdifceikfnnfeaaDoor.Sp
open Go.RowKit Go.Shelf Go.ChangeShapes Go.WideShapes Go.ChangeAt
set_option linter.unusedVariables false

/-- a row of blocks, wherever it lies -/
def Gps (w : World) (v : Value) (X : List (Nat × Nat)) : Prop :=
  X.length ≤ 9223372036854775807 ∧ ∃ a cap, v = .slice a X.length cap ∧ (X.length = 0 ∨ ∃ b, a = some ⟨b, 0, none⟩ ∧ b < w.heap.size ∧ ∀ j, j < X.length → w.cell? ⟨b, j * 2, none⟩ = some (.int .u16 ((X.getD j (0, 0)).1 : Int)) ∧ w.cell? ⟨b, j * 2 + 1, none⟩ = some (.int .u16 ((X.getD j (0, 0)).2 : Int)))
theorem Gps.later {w w' : World} {v : Value} {X : List (Nat × Nat)} (h : Gps w v X) (hB : Below w.heap.size w w') : Gps w' v X := by
  obtain ⟨h0, a, cap, rfl, h⟩ := h
  refine ⟨h0, a, cap, rfl, h.imp id ?_⟩
  rintro ⟨b, rfl, hb, hc⟩
  exact ⟨b, rfl, Nat.lt_of_lt_of_le hb hB.size, fun j hj => ⟨(hB.cell (p := ⟨b, j * 2, none⟩) hb).trans (hc j hj).1, (hB.cell (p := ⟨b, j * 2 + 1, none⟩) hb).trans (hc j hj).2⟩⟩
theorem gapC_at : ∀ (X : List (Nat × Nat)) (j : Nat), j < X.length → (X.flatMap gapC)[j * 2]? = some (.int .u16 ((X.getD j (0, 0)).1 : Int)) ∧ (X.flatMap gapC)[j * 2 + 1]? = some (.int .u16 ((X.getD j (0, 0)).2 : Int))
  | [], j, h => by simp at h
  | g :: r, 0, _ => by simp [gapC]
  | g :: r, j + 1, h => by
    have ih := gapC_at r j (by simpa using h)
    rw [List.flatMap_cons, List.getElem?_append_right (by simp [gapC]; omega), List.getElem?_append_right (by simp [gapC]; omega)]
    rw [show (j + 1) * 2 - (gapC g).length = j * 2 by simp [gapC]; omega, show (j + 1) * 2 + 1 - (gapC g).length = j * 2 + 1 by simp [gapC]; omega]
    simpa using ih
theorem gps_own {w : World} {base : Nat} {v : Value} {X : List (Nat × Nat)} (h : w.ownsRow base 74 2 v X.length (X.flatMap gapC)) : Gps w v X := by
  have hml : X.length ≤ 9223372036854775807 := by
    rcases h.2 with ⟨_, h0⟩ | ⟨g, cap, cur, _, _, _, h1, h2, _⟩
    · omega
    · unfold maxLen at h2; omega
  obtain ⟨a, cap, rfl⟩ := row_len h
  refine ⟨hml, a, cap, rfl, ?_⟩
  by_cases h0 : X.length = 0
  · exact .inl h0
  right
  rcases h.2 with ⟨_, h1⟩ | ⟨g, cap', cur, e, hb, hg, _⟩
  · omega
  · cases e
    refine ⟨g, rfl, (Array.getElem?_eq_some_iff.1 hg).1, fun j hj => ?_⟩
    rw [h.cellAt (j * 2) (by omega), h.cellAt (j * 2 + 1) (by omega)]
    exact gapC_at X j hj

theorem blocks_eq (w : World) (v1 v2 : Value) (X : List (Nat × Nat)) (h1 : Gps w v1 X) (h2 : Gps w v2 X) :
    Calls Tryd.prog 61 #[v1, v2] w fun e w' => e = .returned (.bool true) ∧ Below w.heap.size w w' := by
  obtain ⟨hn, a1, c1, rfl, h1⟩ := h1
  obtain ⟨_, a2, c2, rfl, h2⟩ := h2
  go_enter Tryd.func61, Tryd.ntmps61
  go_wp2
  go_loopw [5] (fun i wr => ∃ q : Int, 0 ≤ q ∧ q ≤ (X.length : Int) ∧ i = .int .i64 q ∧ Below w.heap.size w wr) (fun i wr => X.length - (intOf i).toNat)
  case atStart => exact ⟨0, by omega, by omega, rfl, Below.refl _ _⟩
  case round =>
    obtain ⟨q, hq0, hq, rfl, hB⟩ := hrel
    by_cases hlt : q < (X.length : Int)
    · obtain ⟨b1, rfl, hb1, hc1⟩ := h1.resolve_left (by omega)
      obtain ⟨b2, rfl, hb2, hc2⟩ := h2.resolve_left (by omega)
      have k1 := (hB.cell (p := ⟨b1, q.toNat * 2, none⟩) hb1).trans (hc1 q.toNat (by omega)).1
      have k2 := (hB.cell (p := ⟨b1, q.toNat * 2 + 1, none⟩) hb1).trans (hc1 q.toNat (by omega)).2
      have k3 := (hB.cell (p := ⟨b2, q.toNat * 2, none⟩) hb2).trans (hc2 q.toNat (by omega)).1
      have k4 := (hB.cell (p := ⟨b2, q.toNat * 2 + 1, none⟩) hb2).trans (hc2 q.toNat (by omega)).2
      generalize ((X.getD q.toNat (0, 0)).1 : Int) = z1 at k1 k3
      generalize ((X.getD q.toNat (0, 0)).2 : Int) = z2 at k2 k4
      clear h1 h2 hc1 hc2
      go_wp2
      go_quiet (fail)
      obtain ⟨w2, hw2, hh2⟩ : ∃ w2, wr.drewN nq = w2 ∧ Hid (Below w.heap.size w w2) := ⟨_, rfl, ⟨hB.os, hB.tape, hB.output, hB.size, hB.block⟩⟩
      rw [hw2]
      clear hw2
      go_wp2
      go_roundw
      case rel => exact ⟨q + 1, by omega, by omega, rfl, hh2.out⟩
      case measure => simp only [intOf]; omega
    · clear h1 h2
      go_wp2
      go_ret
      exact ⟨rfl, hB⟩

theorem IsRef.ofHeap {w w' : World} {b c : Nat} {L : List Nat} (h : IsRef w b c L) (hh : w'.heap = w.heap) : IsRef w' b c L := by
  obtain ⟨h1, h2, v, h3, h4⟩ := h
  exact ⟨h1, h2, v, by rw [hh]; exact h3, own_heap h4 hh⟩
theorem Tab.ofHeap {w w' : World} (h : Tab w) (hh : w'.heap = w.heap) : Tab w' := fun i hi => (World.cell?_of_block (a := ⟨0, i, none⟩) (by rw [hh])).trans (h i hi)

/-- a world that is another one but for draws -/
def Sam (w v : World) : Prop := v.heap = w.heap ∧ v.os = w.os ∧ v.tape = w.tape ∧ v.output = w.output
theorem Sam.below {w v w' : World} (h : Sam w v) (hB : Below v.heap.size v w') : Below w.heap.size w w' := by
  obtain ⟨h1, h2, h3, h4⟩ := h
  exact ⟨hB.os.trans h2, hB.tape.trans h3, hB.output.trans h4, by have := hB.size; rw [h1] at this; exact this, fun k hk => (hB.block k (by rw [h1]; exact hk)).trans (by rw [h1])⟩

end Go.Proofs.YtdifceikfnnfeaaDoor.Sp
