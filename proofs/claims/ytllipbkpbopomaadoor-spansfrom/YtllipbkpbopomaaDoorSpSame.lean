/-
  Two rows of blocks held against one another; all that is told of a set and of the document's set, held against one another.
  Conditions: both sets stand for the same cum and distances.
-/
import Derived.Test.YtllipbkpbopomaaDoorSpRefA
import Derived.Test.YtllipbkpbopomaaDoorSpRefD
import Derived.Deep.RegionWith
namespace Go.Proofs.YtllipbkpbopomaaDoor.Sp
open Go.RowKit Go.Shelf Go.ChangeShapes Go.WideShapes Go.ChangeAt
set_option linter.unusedVariables false

/-- a row of blocks, wherever it lies -/
def Gps (w : World) (v : Value) (X : List (Nat × Nat)) : Prop :=
  X.length ≤ 9223372036854775807 ∧ ∃ a cap, v = .slice a X.length cap ∧ (X.length = 0 ∨ ∃ b, a = some ⟨b, 0, none⟩ ∧ b < w.heap.size ∧ ∀ j, j < X.length → w.cell? ⟨b, j * 2, none⟩ = some (.int .u16 ((X.getD j (0, 0)).1 : Int)) ∧ w.cell? ⟨b, j * 2 + 1, none⟩ = some (.int .u16 ((X.getD j (0, 0)).2 : Int)))
theorem Gps.later {w w' : World} {v : Value} {X : List (Nat × Nat)} (h : Gps w v X) (hB : Below w.heap.size w w') : Gps w' v X := by
  obtain ⟨h0, a, cap, rfl, h⟩ := h
  refine ⟨h0, a, cap, rfl, h.imp id ?_⟩
  rintro ⟨b, rfl, hb, hc⟩
  exact ⟨b, rfl, Nat.lt_of_lt_of_le hb hB.size, fun j hj => ⟨(hB.cell (p := ⟨b, j * 2, none⟩) hb).trans (hc j hj).1, (hB.cell (p := ⟨b, j * 2 + 1, none⟩) hb).trans (hc j hj).2⟩⟩
theorem gapC_at : ∀ (X : List (Nat × Nat)) (j : Nat), j < X.length → (X.flatMap gapC)[j * 2]? = some (.int .u16 ((X.getD j (0, 0)).1 : Int)) ∧ (X.flatMap gapC)[j * 2 + 1]? = some (.int .u16 ((X.getD j (0, 0)).2 : Int))
  | [], j, h => by simp at h
  | g :: r, 0, _ => by simp [gapC]
  | g :: r, j + 1, h => by
    have ih := gapC_at r j (by simpa using h)
    rw [List.flatMap_cons, List.getElem?_append_right (by simp [gapC]; omega), List.getElem?_append_right (by simp [gapC]; omega)]
    rw [show (j + 1) * 2 - (gapC g).length = j * 2 by simp [gapC]; omega, show (j + 1) * 2 + 1 - (gapC g).length = j * 2 + 1 by simp [gapC]; omega]
    simpa using ih
theorem gps_own {w : World} {base : Nat} {v : Value} {X : List (Nat × Nat)} (h : w.ownsRow base 76 2 v X.length (X.flatMap gapC)) : Gps w v X := by
  have hml : X.length ≤ 9223372036854775807 := by
    rcases h.2 with ⟨_, h0⟩ | ⟨g, cap, cur, _, _, _, h1, h2, _⟩
    · omega
    · unfold maxLen at h2; omega
  obtain ⟨a, cap, rfl⟩ := row_len h
  refine ⟨hml, a, cap, rfl, ?_⟩
  by_cases h0 : X.length = 0
  · exact .inl h0
  right
  rcases h.2 with ⟨_, h1⟩ | ⟨g, cap', cur, e, hb, hg, _⟩
  · omega
  · cases e
    refine ⟨g, rfl, (Array.getElem?_eq_some_iff.1 hg).1, fun j hj => ?_⟩
    rw [h.cellAt (j * 2) (by omega), h.cellAt (j * 2 + 1) (by omega)]
    exact gapC_at X j hj

theorem blocks_eq (w : World) (v1 v2 : Value) (X : List (Nat × Nat)) (h1 : Gps w v1 X) (h2 : Gps w v2 X) :
    Calls Tryd.prog 18 #[v1, v2] w fun e w' => e = .returned (.bool true) ∧ Below w.heap.size w w' := by
  obtain ⟨hn, a1, c1, rfl, h1⟩ := h1
  obtain ⟨_, a2, c2, rfl, h2⟩ := h2
  go_enter Tryd.func18, Tryd.ntmps18
  go_wp2
  go_loopw [5] (fun i wr => ∃ q : Int, 0 ≤ q ∧ q ≤ (X.length : Int) ∧ i = .int .i64 q ∧ Below w.heap.size w wr) (fun i wr => X.length - (intOf i).toNat)
  case atStart => exact ⟨0, by omega, by omega, rfl, Below.refl _ _⟩
  case round =>
    obtain ⟨q, hq0, hq, rfl, hB⟩ := hrel
    by_cases hlt : q < (X.length : Int)
    · obtain ⟨b1, rfl, hb1, hc1⟩ := h1.resolve_left (by omega)
      obtain ⟨b2, rfl, hb2, hc2⟩ := h2.resolve_left (by omega)
      have k1 := (hB.cell (p := ⟨b1, q.toNat * 2, none⟩) hb1).trans (hc1 q.toNat (by omega)).1
      have k2 := (hB.cell (p := ⟨b1, q.toNat * 2 + 1, none⟩) hb1).trans (hc1 q.toNat (by omega)).2
      have k3 := (hB.cell (p := ⟨b2, q.toNat * 2, none⟩) hb2).trans (hc2 q.toNat (by omega)).1
      have k4 := (hB.cell (p := ⟨b2, q.toNat * 2 + 1, none⟩) hb2).trans (hc2 q.toNat (by omega)).2
      generalize ((X.getD q.toNat (0, 0)).1 : Int) = z1 at k1 k3
      generalize ((X.getD q.toNat (0, 0)).2 : Int) = z2 at k2 k4
      clear h1 h2 hc1 hc2
      go_wp2
      go_quiet (fail)
      obtain ⟨w2, hw2, hh2⟩ : ∃ w2, wr.drewN nq = w2 ∧ Hid (Below w.heap.size w w2) := ⟨_, rfl, ⟨hB.os, hB.tape, hB.output, hB.size, hB.block⟩⟩
      rw [hw2]
      clear hw2
      go_wp2
      go_roundw
      case rel => exact ⟨q + 1, by omega, by omega, rfl, hh2.out⟩
      case measure => simp only [intOf]; omega
    · clear h1 h2
      go_wp2
      go_ret
      exact ⟨rfl, hB⟩

theorem IsRef.ofHeap {w w' : World} {b c : Nat} {L : List Nat} (h : IsRef w b c L) (hh : w'.heap = w.heap) : IsRef w' b c L := by
  obtain ⟨h1, h2, v, h3, h4⟩ := h
  exact ⟨h1, h2, v, by rw [hh]; exact h3, own_heap h4 hh⟩
theorem Tab.ofHeap {w w' : World} (h : Tab w) (hh : w'.heap = w.heap) : Tab w' := fun i hi => (World.cell?_of_block (a := ⟨0, i, none⟩) (by rw [hh])).trans (h i hi)

/-- a world that is another one but for draws -/
def Sam (w v : World) : Prop := v.heap = w.heap ∧ v.os = w.os ∧ v.tape = w.tape ∧ v.output = w.output
theorem Sam.below {w v w' : World} (h : Sam w v) (hB : Below v.heap.size v w') : Below w.heap.size w w' := by
  obtain ⟨h1, h2, h3, h4⟩ := h
  exact ⟨hB.os.trans h2, hB.tape.trans h3, hB.output.trans h4, by have := hB.size; rw [h1] at this; exact this, fun k hk => (hB.block k (by rw [h1]; exact hk)).trans (by rw [h1])⟩

set_option maxHeartbeats 4000000 in
theorem same (w : World) {bs br c : Nat} {L : List Nat} (hS : IsSet w bs c L) (hR : IsRef w br c L) (hT : Tab w) :
    Calls Tryd.prog 24 #[.pointer (some ⟨bs, 0, none⟩), .pointer (some ⟨br, 0, none⟩)] w fun e w' => e = .returned (.bool true) ∧ Below w.heap.size w w' := by
  obtain ⟨c0, ra, rcap, c1, -⟩ := hR.read
  obtain ⟨hI, hhI⟩ : ∃ hI : Int, Hid (tsV c (lastD L) = .int .u32 hI) := ⟨_, rfl⟩
  have CU : Hid (∀ v : World, Sam w v → Calls Tryd.prog 29 #[.pointer (some ⟨bs, 0, none⟩)] v fun e w' => e = .returned (.int .u32 (c : Int)) ∧ v = w') := fun v hv => cumS (hS.ofHeap hv.1)
  have CO : Hid (∀ v : World, Sam w v → Calls Tryd.prog 34 #[.pointer (some ⟨bs, 0, none⟩)] v fun e w' => e = .returned (.int .i64 (L.length : Int)) ∧ v = w') := fun v hv => countS (hS.ofHeap hv.1)
  have CH : Hid (∀ v : World, Sam w v → Calls Tryd.prog 32 #[.pointer (some ⟨bs, 0, none⟩)] v fun e w' => e = .returned (.int .u32 hI) ∧ Below w.heap.size w w' ∧ IsSet w' bs c L ∧ IsRef w' br c L ∧ Tab w') := fun v hv =>
    (highS (hS.ofHeap hv.1) (hT.ofHeap hv.1)).mono fun e w' hh => ⟨by rw [hh.1, hhI.out], hv.below hh.2, (hS.ofHeap hv.1).below hh.2 (hS.ofHeap hv.1).lt, (hR.ofHeap hv.1).below hh.2, (hT.ofHeap hv.1).below hh.2 (hT.ofHeap hv.1).pos⟩
  have CR : Hid (∀ v : World, IsSet v bs c L → IsRef v br c L → Tab v → Below w.heap.size w v → Calls Tryd.prog 44 #[.pointer (some ⟨br, 0, none⟩)] v fun e w' => e = .returned (.int .u32 hI) ∧ Below w.heap.size w w' ∧ IsSet w' bs c L ∧ IsRef w' br c L ∧ Tab w') := fun v h1 h2 h3 h4 =>
    (rHigh v h2).mono fun e w' hh => ⟨by rw [hh.1, hhI.out], h4.trans (hh.2.mono h4.size), h1.below hh.2 h1.lt, h2.below hh.2, h3.below hh.2 h3.pos⟩
  have CA : Hid (∀ v : World, IsSet v bs c L → IsRef v br c L → Tab v → Below w.heap.size w v → Calls Tryd.prog 30 #[.pointer (some ⟨bs, 0, none⟩)] v fun e w' => ∃ u, e = .returned u ∧ Nums w' u L.length (tsF c L) ∧ Below w.heap.size w w' ∧ IsRef w' br c L) := fun v h1 h2 h3 h4 =>
    (allS h1 h3).mono fun e w' ⟨u, e1, o1, b1⟩ => ⟨u, e1, nums_own o1 rfl, h4.trans (b1.mono h4.size), h2.below b1⟩
  have CB : Hid (∀ (v : World) (u0 : Value), Nums v u0 L.length (tsF c L) → IsRef v br c L → Below w.heap.size w v → Calls Tryd.prog 45 #[.pointer (some ⟨br, 0, none⟩)] v fun e w' => ∃ u, e = .returned u ∧ Nums w' u L.length (tsF c L) ∧ Nums w' u0 L.length (tsF c L) ∧ Below w.heap.size w w') := fun v u0 h1 h2 h4 =>
    (rAll v h2).mono fun e w' ⟨u, e1, o1, b1⟩ => ⟨u, e1, nums_own o1 rfl, h1.later b1, h4.trans (b1.mono h4.size)⟩
  have CN : Hid (∀ (v : World) (u0 u1 : Value), Nums v u0 L.length (tsF c L) → Nums v u1 L.length (tsF c L) → Below w.heap.size w v → Calls Tryd.prog 21 #[u0, u1] v fun e w' => e = .returned (.bool true) ∧ Below w.heap.size w w') := fun v u0 u1 h1 h2 h4 =>
    (numbers v u0 u1 _ _ h1 h2).mono fun e w' hh => ⟨hh.1, h4.trans (hh.2.mono h4.size)⟩
  clear hS hR hT
  go_enter Tryd.func24, Tryd.ntmps24
  go_wp2_with fail
  go_region_with (first
    | (go_at_call 29; refine Calls.mono (CU.out _ ⟨rfl, rfl, rfl, rfl⟩) ?_; rintro e w' ⟨rfl, rfl⟩)
    | (go_at_call 34; refine Calls.mono (CO.out _ ⟨rfl, rfl, rfl, rfl⟩) ?_; rintro e w' ⟨rfl, rfl⟩)
    | (go_at_call 32; refine Calls.mono (CH.out _ ⟨rfl, rfl, rfl, rfl⟩) ?_; rintro e x1 ⟨rfl, b1, s1, r1, t1⟩)
    | (go_at_call 44; refine Calls.mono (CR.out _ s1 r1 t1 b1) ?_; rintro e x2 ⟨rfl, b2, s2, r2, t2⟩)
    | (go_at_call 30; refine Calls.mono (CA.out _ s2 r2 t2 b2) ?_; rintro e x3 ⟨u3, rfl, n3, b3, r3⟩)
    | (go_at_call 45; refine Calls.mono (CB.out _ u3 n3 r3 b3) ?_; rintro e x4 ⟨u4, rfl, n4, n4', b4⟩)
    | (go_at_call 21; refine Calls.mono (CN.out _ u3 u4 n4' n4 b4) ?_; rintro e x5 ⟨rfl, b5⟩))
  all_goals (go_wp2; go_ret; exact ⟨rfl, b5⟩)
end Go.Proofs.YtllipbkpbopomaaDoor.Sp
