/-
  What the law's own functions do: a set of some distances (filled), two rows held against one another (Numbers, Blocks).
  Conditions: the row that is handed in can be read; the table of math/bits holds its numbers.
-/
import Derived.Test.YtdifceikfnnfeaaDoorSpTop
import Derived.Test.YtdifceikfnnfeaaDoorSpCanon
namespace Go.Proofs.YtdifceikfnnfeaaDoor.Sp
open Go.RowKit Go.Shelf Go.ChangeShapes Go.WideShapes Go.ChangeAt
set_option linter.unusedVariables false

/-- a row of short numbers that can be read -/
def Row (w : World) (a : Option Addr) (len : Nat) (zs : List Int) : Prop :=
  zs.length = len ∧ (∀ z ∈ zs, 0 ≤ z ∧ z < 65536) ∧ len ≤ 281474976710656 ∧ (len = 0 ∨ ∃ b off, a = some ⟨b, off, none⟩ ∧ b < w.heap.size ∧ ∀ j, j < len → w.cell? ⟨b, off + j, none⟩ = some (.int .u16 (zs.getD j 0)))
theorem Row.later {w w' : World} {a : Option Addr} {len : Nat} {zs : List Int} (h : Row w a len zs) (hB : Below w.heap.size w w') : Row w' a len zs := by
  obtain ⟨h1, h2, h3, h4⟩ := h
  refine ⟨h1, h2, h3, h4.imp id ?_⟩
  rintro ⟨b, off, rfl, hb, hc⟩
  exact ⟨b, off, rfl, Nat.lt_of_lt_of_le hb hB.size, fun j hj => (hB.cell (p := ⟨b, off + j, none⟩) hb).trans (hc j hj)⟩
theorem at_b16 (zs : List Int) (hb : ∀ z ∈ zs, 0 ≤ z ∧ z < 65536) (k : Nat) : 0 ≤ zs.getD k 0 ∧ zs.getD k 0 < 65536 := by
  rw [List.getD_eq_getElem?_getD]
  cases h : zs[k]? with
  | none => decide
  | some x => exact hb x (List.mem_of_getElem? h)

/-- the first three hundred, as distances -/
def dists (zs : List Int) : List Nat := (zs.take 300).map Int.toNat

/-- a row of numbers, wherever it lies -/
def Nums (w : World) (v : Value) (n : Nat) (f : Nat → Int) : Prop :=
  n ≤ 9223372036854775807 ∧ ∃ a cap, v = .slice a n cap ∧ (n = 0 ∨ ∃ b off, a = some ⟨b, off, none⟩ ∧ b < w.heap.size ∧ ∀ j, j < n → w.cell? ⟨b, off + j, none⟩ = some (.int .u32 (f j)))
theorem Nums.later {w w' : World} {v : Value} {n : Nat} {f : Nat → Int} (h : Nums w v n f) (hB : Below w.heap.size w w') : Nums w' v n f := by
  obtain ⟨h0, a, cap, rfl, h⟩ := h
  refine ⟨h0, a, cap, rfl, h.imp id ?_⟩
  rintro ⟨b, off, rfl, hb, hc⟩
  exact ⟨b, off, rfl, Nat.lt_of_lt_of_le hb hB.size, fun j hj => (hB.cell (p := ⟨b, off + j, none⟩) hb).trans (hc j hj)⟩
/-- the number at a place of a row of distances -/
def tsF (c : Nat) (L : List Nat) (j : Nat) : Int := (((c + L.getD j 0) % 4294967296 : Nat) : Int)
theorem nums_own {w : World} {base n c : Nat} {v : Value} {L : List Nat} (h : w.ownsRow base 22 1 v n (L.map (tsV c))) (hn : L.length = n) : Nums w v n (tsF c L) := by
  have hml : n ≤ 9223372036854775807 := by
    rcases h.2 with ⟨_, h0⟩ | ⟨g, cap, cur, _, _, _, h1, h2, _⟩
    · omega
    · unfold maxLen at h2; omega
  obtain ⟨a, cap, rfl⟩ := row_len h
  refine ⟨hml, a, cap, rfl, ?_⟩
  by_cases h0 : n = 0
  · exact .inl h0
  right
  rcases h.2 with ⟨_, h1⟩ | ⟨g, cap', cur, e, hb, hg, _⟩
  · omega
  · cases e
    refine ⟨g, 0, rfl, (Array.getElem?_eq_some_iff.1 hg).1, fun j hj => ?_⟩
    rw [Nat.zero_add, h.cellAt j (by omega), List.getElem?_map, List.getElem?_eq_getElem (by omega)]
    unfold tsF
    rw [List.getD_eq_getElem?_getD, List.getElem?_eq_getElem (by omega)]
    rfl

theorem numbers (w : World) (v1 v2 : Value) (n : Nat) (f : Nat → Int) (h1 : Nums w v1 n f) (h2 : Nums w v2 n f) :
    Calls Tryd.prog 17 #[v1, v2] w fun e w' => e = .returned (.bool true) ∧ Below w.heap.size w w' := by
  obtain ⟨hn, a1, c1, rfl, h1⟩ := h1
  obtain ⟨_, a2, c2, rfl, h2⟩ := h2
  go_enter Tryd.func17, Tryd.ntmps17
  go_wp2
  go_loopw [5] (fun i wr => ∃ q : Int, 0 ≤ q ∧ q ≤ (n : Int) ∧ i = .int .i64 q ∧ Below w.heap.size w wr) (fun i wr => n - (intOf i).toNat)
  case atStart => exact ⟨0, by omega, by omega, rfl, Below.refl _ _⟩
  case round =>
    obtain ⟨q, hq0, hq, rfl, hB⟩ := hrel
    by_cases hlt : q < (n : Int)
    · obtain ⟨b1, o1, rfl, hb1, hc1⟩ := h1.resolve_left (by omega)
      obtain ⟨b2, o2, rfl, hb2, hc2⟩ := h2.resolve_left (by omega)
      have k1 := (hB.cell (p := ⟨b1, o1 + q.toNat, none⟩) hb1).trans (hc1 q.toNat (by omega))
      have k2 := (hB.cell (p := ⟨b2, o2 + q.toNat, none⟩) hb2).trans (hc2 q.toNat (by omega))
      generalize f q.toNat = z at k1 k2
      clear h1 h2 hc1 hc2
      go_wp2
      go_quiet (fail)
      obtain ⟨w2, hw2, hh2⟩ : ∃ w2, wr.drewN nq = w2 ∧ Hid (Below w.heap.size w w2) := ⟨_, rfl, ⟨hB.os, hB.tape, hB.output, hB.size, hB.block⟩⟩
      rw [hw2]
      clear hw2
      go_wp2
      go_roundw
      case rel => exact ⟨q + 1, by omega, by omega, rfl, hh2.out⟩
      case measure => simp only [intOf]; omega
    · clear h1 h2
      go_wp2
      go_ret
      exact ⟨rfl, hB⟩
end Go.Proofs.YtdifceikfnnfeaaDoor.Sp
