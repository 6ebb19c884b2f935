/-
  Windows of several paths: what is told of one of them.
  Conditions: as at each lemma.
-/
import Derived.Test.YtbcdoilfmfckiaaCoA
namespace Go.Proofs.Ytbcdoilfmfckiaa.Co
open Go.ChangeShapes Go.WideShapes Go.ChangeAt Go.RowKit
open Ba (hidden Has Only)
open Ow (Own)
set_option linter.unusedVariables false

theorem below_drew {n : Nat} {w w1 : World} (h : Below n w w1) : Below n w w1.drew := h.trans ⟨rfl, rfl, rfl, Nat.le_refl _, fun _ _ => rfl⟩
theorem keep_cell {w w1 : World} (h : Below w.heap.size w w1) {p : Addr} {v : Value} (hc : w.cell? p = some v) : w1.cell? p = some v := (h.cell (Ba.cell_lt hc)).trans hc
/-- one path of them, as a value -/
abbrev mem (a : Option Addr) (n cap : Nat) (m i y : Int) : Array Value := #[.slice a n cap, .int .i64 m, .int .i64 i, .int .i64 y]
theorem new4 (w : World) (v0 v1 v2 v3 : Value) (t : TypeId) : (w.alloc (.cells #[v0, v1, v2, v3] t)).cell? ⟨w.heap.size, 0, none⟩ = some v0 ∧ (w.alloc (.cells #[v0, v1, v2, v3] t)).cell? ⟨w.heap.size, 1, none⟩ = some v1 ∧ (w.alloc (.cells #[v0, v1, v2, v3] t)).cell? ⟨w.heap.size, 2, none⟩ = some v2 ∧ (w.alloc (.cells #[v0, v1, v2, v3] t)).cell? ⟨w.heap.size, 3, none⟩ = some v3 :=
  have h := Has.new w #[v0, v1, v2, v3] t
  ⟨h.cell 0 rfl, h.cell 1 rfl, h.cell 2 rfl, h.cell 3 rfl⟩
theorem quot {p s : Int} (hp : 0 ≤ p ∧ p ≤ 1152921504606846976) (hs : 1 ≤ s) : IntKind.i64.wrap (p.tdiv s) = p / s := by
  rw [Int.tdiv_eq_ediv_of_nonneg hp.1]
  have h1 := Int.ediv_nonneg (b := s) hp.1 (by omega)
  have h2 := Int.ediv_le_self s hp.1
  rw [IntKind.wrap_i64]
  omega
theorem prod_in {x t : Int} (hx : 0 ≤ x ∧ x ≤ 1073741824) (ht : 1 ≤ t ∧ t ≤ 1073741824) : 0 ≤ x * t ∧ x * t ≤ 1152921504606846976 := by
  refine ⟨Int.mul_nonneg hx.1 (by omega), ?_⟩
  have := Int.mul_le_mul hx.2 ht.2 (by omega) (by decide)
  simpa using this
section
variable {w : World} {a : Option Addr} {n cap : Nat} {zs : List Fw}
set_option maxHeartbeats 2000000 in
theorem of (h : Fl w a n zs) (hg : ∀ z ∈ zs, good z) (h8 : n ≤ 8) (m : Int) {i : Int} (hi : 0 ≤ i ∧ i < n) (y : Int) {x : Int} (hx : 0 ≤ x ∧ x ≤ 1073741824) : Calls Try.prog 37 #[.agg (mem a n cap m i y), .int .i64 x] w fun e w' => e = .returned (.int .i64 (share zs i.toNat x)) ∧ Below w.heap.size w w' := by
  obtain ⟨b, off, rfl, hb⟩ := Fl.open h (by omega)
  obtain ⟨c, t, hz, d0, d1⟩ := Fl.get h (q := i.toNat) (by omega)
  have hgt : good (c, t) := hg _ (List.mem_of_getElem? hz)
  obtain ⟨hc1, ht1⟩ := hgt
  simp only at ht1
  have hS : 1 ≤ sumT zs := by
    have := (sT_in hg zs.length (Nat.le_refl _)).1
    have := h.len
    unfold sumT
    omega
  have hp := prod_in hx ht1
  have hw : IntKind.i64.wrap (x * t) = x * t := by rw [IntKind.wrap_i64]; omega
  have hv : IntKind.i64.wrap ((x * t).tdiv (sumT zs)) = share zs i.toNat x := (quot hp hS).trans (share_at hz x).symm
  generalize share zs i.toNat x = V at *
  have hB0 := (Below.refl _ w).alloc (Nat.le_refl _) (.cells (mem (some ⟨b, off, none⟩) n cap m i y) 49)
  obtain ⟨k0, k1, k2, k3⟩ := new4 w (.slice (some ⟨b, off, none⟩) n cap) (.int .i64 m) (.int .i64 i) (.int .i64 y) 49
  have HH : Hid (∀ X : World, Below (w.alloc (.cells (mem (some ⟨b, off, none⟩) n cap m i y) 49)).heap.size (w.alloc (.cells (mem (some ⟨b, off, none⟩) n cap m i y) 49)) X → X.cell? ⟨w.heap.size, 0, none⟩ = some (.slice (some ⟨b, off, none⟩) n cap) ∧ X.cell? ⟨w.heap.size, 1, none⟩ = some (.int .i64 m) ∧ X.cell? ⟨w.heap.size, 2, none⟩ = some (.int .i64 i) ∧ X.cell? ⟨b, off + i.toNat * 2 + 1, none⟩ = some (.int .i64 t) ∧ Below (w.alloc (.cells (mem (some ⟨b, off, none⟩) n cap m i y) 49)).heap.size (w.alloc (.cells (mem (some ⟨b, off, none⟩) n cap m i y) 49)) X) := fun X hX =>
    ⟨keep_cell hX k0, keep_cell hX k1, keep_cell hX k2, keep_cell hX ((hB0.cell (p := ⟨b, off + i.toNat * 2 + 1, none⟩) hb).trans d1), hX⟩
  have TH : Hid (∀ X : World, Below (w.alloc (.cells (mem (some ⟨b, off, none⟩) n cap m i y) 49)).heap.size (w.alloc (.cells (mem (some ⟨b, off, none⟩) n cap m i y) 49)) X → Calls Try.prog 40 #[.agg #[.slice (some ⟨b, off, none⟩) n cap, .int .i64 m]] X fun e w' => e = .returned (.int .i64 (sumT zs)) ∧ Below (w.alloc (.cells (mem (some ⟨b, off, none⟩) n cap m i y) 49)).heap.size (w.alloc (.cells (mem (some ⟨b, off, none⟩) n cap m i y) 49)) w') := fun X hX =>
    (thresholds ((h.later hB0).later hX) hg h8 m).mono (by rintro e w' ⟨rfl, hB⟩; exact ⟨rfl, hX.trans (hB.mono hX.size)⟩)
  have HB0 := hidden hB0
  generalize sumT zs = S at *
  have hS0 : ¬ S = 0 := by omega
  obtain ⟨hi1, hi2⟩ := hi
  clear h hg hz hc1 ht1 hp hx d0 d1 k0 k1 k2 k3 hB0
  go_enter Try.func37, Try.ntmps37
  go_wp2_with fail
  go_region_held3 (fun X => X.cell? ⟨w.heap.size, 0, none⟩ = some (.slice (some ⟨b, off, none⟩) n cap) ∧ X.cell? ⟨w.heap.size, 1, none⟩ = some (.int .i64 m) ∧ X.cell? ⟨w.heap.size, 2, none⟩ = some (.int .i64 i) ∧ X.cell? ⟨b, off + i.toNat * 2 + 1, none⟩ = some (.int .i64 t) ∧ Below (w.alloc (.cells (mem (some ⟨b, off, none⟩) n cap m i y) 49)).heap.size (w.alloc (.cells (mem (some ⟨b, off, none⟩) n cap m i y) 49)) X)
    (first | (exact HH.out _ (below_drew (Below.refl _ _))) | (exact HH.out _ (by assumption)) | (trace_state; fail))
    (first
      | (go_at_call 40; refine Calls.mono (TH.out _ ?_) ?_; (first | assumption | exact below_drew (Below.refl _ _)); rintro e X ⟨rfl, hX⟩))
  go_wp2
  go_ret
  exact ⟨rfl, HB0.out.trans (hX.mono HB0.out.size)⟩
theorem lts (h : Fl w a n zs) (m i y : Int) : Own w (w.alloc (.cells (mem a n cap m i y) 49)) [(w.heap.size, mem a n cap m i y, 49)] := (Own.refl w).alloc _ _
theorem still (m i y : Int) : Calls Try.prog 41 #[.agg (mem a n cap m i y)] w fun e w' => e = .returned (.int .i64 0) ∧ Below w.heap.size w w' := by
  go_enter Try.func41, Try.ntmps41
  go_wp2
  go_ret
  exact ⟨rfl, (Below.refl _ w).alloc (Nat.le_refl _) _⟩
theorem share_ (h : Fl w a n zs) (hg : ∀ z ∈ zs, good z) (h8 : n ≤ 8) (m : Int) {i : Int} (hi : 0 ≤ i ∧ i < n) {y : Int} (hy : 0 ≤ y ∧ y ≤ 1073741824) : Calls Try.prog 24 #[.agg (mem a n cap m i y)] w fun e w' => e = .returned (.int .i64 (share zs i.toNat y)) ∧ Below w.heap.size w w' := by
  have hB0 := (Below.refl _ w).alloc (Nat.le_refl _) (.cells (mem a n cap m i y) 49)
  have OF := hidden (of (cap := cap) (h.later hB0) hg h8 m hi y hy)
  have HB0 := hidden hB0
  clear h hg hi hy hB0
  go_enter Try.func24, Try.ntmps24
  go_wp2_with fail
  refine Calls.mono OF.out ?_
  rintro e w1 ⟨rfl, hB⟩
  have HB := hidden (HB0.out.trans (hB.mono HB0.out.size))
  clear hB
  go_wp2
  go_ret
  exact ⟨rfl, HB.out⟩
theorem avoid_ (h : Fl w a n zs) (hg : ∀ z ∈ zs, good z) (h8 : n ≤ 8) {m : Int} (hm : 1 ≤ m ∧ m ≤ 65536) {i : Int} (hi : 0 ≤ i ∧ i < n) (y : Int) : Calls Try.prog 30 #[.agg (mem a n cap m i y)] w fun e w' => e = .returned (.int .i64 (share zs i.toNat m)) ∧ Below w.heap.size w w' := by
  have hB0 := (Below.refl _ w).alloc (Nat.le_refl _) (.cells (mem a n cap m i y) 49)
  have OF := hidden (of (cap := cap) (h.later hB0) hg h8 m hi y (x := m) (by omega))
  have HB0 := hidden hB0
  clear h hg hi hm hB0
  go_enter Try.func30, Try.ntmps30
  go_wp2_with fail
  refine Calls.mono OF.out ?_
  rintro e w1 ⟨rfl, hB⟩
  have HB := hidden (HB0.out.trans (hB.mono HB0.out.size))
  clear hB
  go_wp2
  go_ret
  exact ⟨rfl, HB.out⟩
theorem slow_ (h : Fl w a n zs) (hg : ∀ z ∈ zs, good z) (h8 : n ≤ 8) {m : Int} (hm : 1 ≤ m ∧ m ≤ 65536) {i : Int} (hi : 0 ≤ i ∧ i < n) {y : Int} (hy : 0 ≤ y ∧ y ≤ 1073741824) : Calls Try.prog 29 #[.agg (mem a n cap m i y)] w fun e w' => e = .returned (.int .i64 (share zs i.toNat (min y m))) ∧ Below w.heap.size w w' := by
  have hB0 := (Below.refl _ w).alloc (Nat.le_refl _) (.cells (mem a n cap m i y) 49)
  have OF := hidden (of (cap := cap) (h.later hB0) hg h8 m hi y (x := min y m) (by omega))
  have HB0 := hidden hB0
  clear h hg hi hm hy hB0
  go_enter Try.func29, Try.ntmps29
  go_wp2_with fail
  refine Calls.mono OF.out ?_
  rintro e w1 ⟨rfl, hB⟩
  have HB := hidden (HB0.out.trans (hB.mono HB0.out.size))
  clear hB
  go_wp2
  go_ret
  exact ⟨rfl, HB.out⟩
end
theorem max3 (k k' k2 : IntKind) (ts : Array TypeId) (t : TypeId) (x y z : Int) (w : World) : (Builtin.max_ ts t #[.int k x, .int k' y, .int k2 z]).run Try.prog w = .ok (.int k (max (max x y) z)) w := by
  have e1 : (if y > x then y else x) = max x y := by
    rw [Int.max_def]
    split <;> split <;> omega
  have e2 : (if z > max x y then z else max x y) = max (max x y) z := by
    rw [Int.max_def (max x y) z]
    split <;> split <;> omega
  simp [Builtin.max_, Builtin.max2, e1, e2]
/-- a path's threshold behind a loss -/
def cutV (zs : List Fw) (j : Nat) (m : Int) : Int := max (max ((zs.getD j (0, 0)).1 - sumC zs / 2) (share zs j (4 * m))) m
section
variable {w : World} {a : Option Addr} {n cap : Nat} {zs : List Fw}
set_option maxHeartbeats 4000000 in
theorem cut_ (h : Fl w a n zs) (hg : ∀ z ∈ zs, good z) (h8 : n ≤ 8) {m : Int} (hm : 1 ≤ m ∧ m ≤ 65536) {i : Int} (hi : 0 ≤ i ∧ i < n) (y : Int) : Calls Try.prog 31 #[.agg (mem a n cap m i y)] w fun e w' => e = .returned (.int .i64 (cutV zs i.toNat m)) ∧ Below w.heap.size w w' := by
  obtain ⟨b, off, rfl, hb⟩ := Fl.open h (by omega)
  obtain ⟨c, t, hz, d0, d1⟩ := Fl.get h (q := i.toNat) (by omega)
  have hgt : good (c, t) := hg _ (List.mem_of_getElem? hz)
  obtain ⟨hc1, ht1⟩ := hgt
  simp only at hc1
  have hS : 0 ≤ sumC zs ∧ sumC zs ≤ 8589934592 := by
    have := sC_in hg zs.length (Nat.le_refl _)
    have := h.len
    unfold sumC
    omega
  have hw1 : IntKind.i64.wrap ((sumC zs).tdiv 2) = sumC zs / 2 := by rw [Int.tdiv_eq_ediv_of_nonneg hS.1, IntKind.wrap_i64]; omega
  have hw2 : IntKind.i64.wrap (c - sumC zs / 2) = c - sumC zs / 2 := by rw [IntKind.wrap_i64]; omega
  have hw3 : IntKind.i64.wrap (4 * m) = 4 * m := by rw [IntKind.wrap_i64]; omega
  have HV : Hid (cutV zs i.toNat m = max (max (c - sumC zs / 2) (share zs i.toNat (4 * m))) m) := by
    unfold cutV
    rw [List.getD_eq_getElem?_getD, hz]
    rfl
  have hB0 := (Below.refl _ w).alloc (Nat.le_refl _) (.cells (mem (some ⟨b, off, none⟩) n cap m i y) 49)
  obtain ⟨k0, k1, k2, k3⟩ := new4 w (.slice (some ⟨b, off, none⟩) n cap) (.int .i64 m) (.int .i64 i) (.int .i64 y) 49
  have HH : Hid (∀ X : World, Below (w.alloc (.cells (mem (some ⟨b, off, none⟩) n cap m i y) 49)).heap.size (w.alloc (.cells (mem (some ⟨b, off, none⟩) n cap m i y) 49)) X → X.cell? ⟨w.heap.size, 0, none⟩ = some (.slice (some ⟨b, off, none⟩) n cap) ∧ X.cell? ⟨w.heap.size, 1, none⟩ = some (.int .i64 m) ∧ X.cell? ⟨w.heap.size, 2, none⟩ = some (.int .i64 i) ∧ X.cell? ⟨w.heap.size, 3, none⟩ = some (.int .i64 y) ∧ X.cell? ⟨b, off + i.toNat * 2, none⟩ = some (.int .i64 c) ∧ Below (w.alloc (.cells (mem (some ⟨b, off, none⟩) n cap m i y) 49)).heap.size (w.alloc (.cells (mem (some ⟨b, off, none⟩) n cap m i y) 49)) X) := fun X hX =>
    ⟨keep_cell hX k0, keep_cell hX k1, keep_cell hX k2, keep_cell hX k3, keep_cell hX ((hB0.cell (p := ⟨b, off + i.toNat * 2, none⟩) hb).trans d0), hX⟩
  have TH : Hid (∀ X : World, Below (w.alloc (.cells (mem (some ⟨b, off, none⟩) n cap m i y) 49)).heap.size (w.alloc (.cells (mem (some ⟨b, off, none⟩) n cap m i y) 49)) X → Calls Try.prog 38 #[.agg #[.slice (some ⟨b, off, none⟩) n cap, .int .i64 m]] X fun e w' => e = .returned (.int .i64 (sumC zs)) ∧ Below (w.alloc (.cells (mem (some ⟨b, off, none⟩) n cap m i y) 49)).heap.size (w.alloc (.cells (mem (some ⟨b, off, none⟩) n cap m i y) 49)) w') := fun X hX =>
    (windows ((h.later hB0).later hX) hg h8 m).mono (by rintro e w' ⟨rfl, hB⟩; exact ⟨rfl, hX.trans (hB.mono hX.size)⟩)
  have OF : Hid (∀ X : World, Below (w.alloc (.cells (mem (some ⟨b, off, none⟩) n cap m i y) 49)).heap.size (w.alloc (.cells (mem (some ⟨b, off, none⟩) n cap m i y) 49)) X → Calls Try.prog 37 #[.agg (mem (some ⟨b, off, none⟩) n cap m i y), .int .i64 (4 * m)] X fun e w' => e = .returned (.int .i64 (share zs i.toNat (4 * m))) ∧ Below (w.alloc (.cells (mem (some ⟨b, off, none⟩) n cap m i y) 49)).heap.size (w.alloc (.cells (mem (some ⟨b, off, none⟩) n cap m i y) 49)) w') := fun X hX =>
    (of ((h.later hB0).later hX) hg h8 m hi y (by omega)).mono (by rintro e w' ⟨rfl, hB⟩; exact ⟨rfl, hX.trans (hB.mono hX.size)⟩)
  have HB0 := hidden hB0
  generalize cutV zs i.toNat m = R at *
  generalize sumC zs = S at *
  generalize share zs i.toNat (4 * m) = V at *
  obtain ⟨hi1, hi2⟩ := hi
  have hmx : ∀ W, (Builtin.max_ #[3, 3, 3] 3 #[.int .i64 (c - S / 2), .int .i64 V, .int .i64 m]).run Try.prog W = .ok (.int .i64 R) W := fun W => by rw [HV.out]; exact max3 _ _ _ _ _ _ _ _ _
  clear h hg hz hc1 ht1 hm d0 d1 k0 k1 k2 k3 hB0
  go_enter Try.func31, Try.ntmps31
  go_wp2_with fail
  go_region_held3 (fun X => X.cell? ⟨w.heap.size, 0, none⟩ = some (.slice (some ⟨b, off, none⟩) n cap) ∧ X.cell? ⟨w.heap.size, 1, none⟩ = some (.int .i64 m) ∧ X.cell? ⟨w.heap.size, 2, none⟩ = some (.int .i64 i) ∧ X.cell? ⟨w.heap.size, 3, none⟩ = some (.int .i64 y) ∧ X.cell? ⟨b, off + i.toNat * 2, none⟩ = some (.int .i64 c) ∧ Below (w.alloc (.cells (mem (some ⟨b, off, none⟩) n cap m i y) 49)).heap.size (w.alloc (.cells (mem (some ⟨b, off, none⟩) n cap m i y) 49)) X)
    (first | (exact HH.out _ (below_drew (Below.refl _ _))) | (exact HH.out _ (by assumption)) | (trace_state; fail))
    (first
      | (go_at_call 38; refine Calls.mono (TH.out _ ?_) ?_; (first | assumption | exact below_drew (Below.refl _ _)); rintro e X ⟨rfl, hX⟩)
      | (go_at_call 37; refine Calls.mono (OF.out _ ?_) ?_; (first | assumption | exact below_drew (Below.refl _ _)); rintro e Y ⟨rfl, hY⟩))
  go_wp2
  go_ret
  exact ⟨rfl, HB0.out.trans (hY.mono HB0.out.size)⟩
end
end Go.Proofs.Ytbcdoilfmfckiaa.Co
