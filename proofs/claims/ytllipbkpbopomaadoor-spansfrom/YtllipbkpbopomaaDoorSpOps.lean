/-
  A row of calls that came in, and one of blocks: what their cells hold.
  Conditions: the rows were read as the statements read them.
-/
import Derived.Test.YtllipbkpbopomaaDoorSpTop
import Derived.Deep.Slices
import Derived.Deep.SlicePairs
import Derived.Deep.Strs
namespace Go.Proofs.YtllipbkpbopomaaDoor.Sp
open Go.RowKit Go.Shelf Go.ChangeShapes Go.WideShapes Go.ChangeAt Go.Deep Go.Deep
set_option linter.unusedVariables false

/-- a row of calls that can be read -/
def RowO (w : World) (a : Option Addr) (len : Nat) (f : Nat → Int × Int × Int) : Prop :=
  len ≤ 281474976710656 ∧ (∀ j, j < len → (Lit.int .i64 (f j).1).wf = true ∧ (Lit.int .u32 (f j).2.1).wf = true ∧ (Lit.int .i64 (f j).2.2).wf = true) ∧
  (len = 0 ∨ ∃ b off, a = some ⟨b, off, none⟩ ∧ b < w.heap.size ∧ ∀ j, j < len → w.cell? ⟨b, off + j * 3, none⟩ = some (.int .i64 (f j).1) ∧ w.cell? ⟨b, off + j * 3 + 1, none⟩ = some (.int .u32 (f j).2.1) ∧ w.cell? ⟨b, off + j * 3 + 2, none⟩ = some (.int .i64 (f j).2.2))
theorem RowO.later {w w' : World} {a : Option Addr} {len : Nat} {f : Nat → Int × Int × Int} (h : RowO w a len f) (hB : Below w.heap.size w w') : RowO w' a len f := by
  obtain ⟨h1, h2, h3⟩ := h
  refine ⟨h1, h2, h3.imp id ?_⟩
  rintro ⟨b, off, rfl, hb, hc⟩
  exact ⟨b, off, rfl, Nat.lt_of_lt_of_le hb hB.size, fun j hj => ⟨(hB.cell (p := ⟨b, off + j * 3, none⟩) hb).trans (hc j hj).1, (hB.cell (p := ⟨b, off + j * 3 + 1, none⟩) hb).trans (hc j hj).2.1, (hB.cell (p := ⟨b, off + j * 3 + 2, none⟩) hb).trans (hc j hj).2.2⟩⟩

theorem cells29 : Tryd.prog.cellsOf 29 = 3 := by kernel_rfl
theorem cells22 : Tryd.prog.cellsOf 22 = 1 := by kernel_rfl
theorem cells3 : Tryd.prog.cellsOf 3 = 1 := by kernel_rfl

set_option maxRecDepth 100000 in
theorem rowO_of {H : Type} {enc : TypeId × Value → H} {W : World} {base : Nat} {held : Bool} {fuel : Nat} {a : Option Addr} {len cap : Nat} {x : DataW H × List MemPlace}
    (h : DataW.trod enc Tryd.prog W base (fun _ => true) held fuel 23 (Value.slice a len cap).cells.toList = some x)
    (hsz : ∀ elems spare, x.1 = .slice elems spare → elems.length + spare.length ≤ 140737488351232) : ∃ f, RowO W a len f ∧ len ≤ cap ∧ cap ≤ 140737488351232 ∧ (a = none → len = 0 ∧ cap = 0) := by
  rcases open_slice Tryd.underlying23 h with ⟨hcs, _⟩ | ⟨ad, l, c, m, n, D, Pl, hcs, _, hl, hm, hmm, rfl, hx⟩
  · simp [Value.cells] at hcs
    obtain ⟨rfl, rfl, rfl⟩ := hcs
    exact ⟨fun _ => (0, 0, 0), ⟨by decide, fun j hj => by omega, .inl rfl⟩, by decide, by decide, fun _ => ⟨rfl, rfl⟩⟩
  · simp [Value.cells] at hcs
    obtain ⟨rfl, rfl, rfl⟩ := hcs
    simp only [if_pos] at hmm
    have hc : cap ≤ 140737488351232 := by
      have := hsz _ _ rfl
      simp only [List.length_map, List.length_range] at this
      omega
    have each : ∀ i, i < len → ∃ q : Int × Int × Int, ((Lit.int .i64 q.1).wf = true ∧ (Lit.int .u32 q.2.1).wf = true ∧ (Lit.int .i64 q.2.2).wf = true) ∧ W.cell? ((ad.add (i * 3)).add 0) = some (.int .i64 q.1) ∧ W.cell? ((ad.add (i * 3)).add 1) = some (.int .u32 q.2.1) ∧ W.cell? ((ad.add (i * 3)).add 2) = some (.int .i64 q.2.2) := by
      intro i hi
      obtain ⟨cs', h1, h2⟩ := hx i (by omega)
      rw [cells29] at h1
      obtain ⟨_, hlen, hcell⟩ := World.cells?_some h1
      obtain ⟨y0, y1, y2, k, _, _, g0, g1, g2⟩ := trod_struct3 Tryd.underlying29 h2
      match cs', hlen with
      | [v0, v1, v2], _ =>
        simp only [cells3, cells22] at g0 g1 g2
        obtain ⟨n0, e0, _, w0⟩ := DataW.trod_int Tryd.underlying3 g0
        obtain ⟨n1, e1, _, w1⟩ := DataW.trod_int Tryd.underlying22 g1
        obtain ⟨n2, e2, _, w2⟩ := DataW.trod_int Tryd.underlying3 g2
        simp at e0 e1 e2
        subst e0; subst e1; subst e2
        exact ⟨(n0, n1, n2), ⟨w0, w1, w2⟩, by simpa using hcell 0 (by omega), by simpa using hcell 1 (by omega), by simpa using hcell 2 (by omega)⟩
    obtain ⟨f, hf⟩ := choose_lt each
    refine ⟨f, ⟨by omega, fun j hj => (hf j hj).1, ?_⟩, hl, hc, (fun h => by cases h)⟩
    rcases Nat.eq_zero_or_pos len with h0 | hpos
    · exact .inl h0
    · obtain ⟨b, off, spot⟩ := ad
      have hspot : spot = none := by simpa [Addr.add] using World.cell?_spot (hf 0 hpos).2.1
      subst hspot
      have hadd : ∀ i j : Nat, ((⟨b, off, none⟩ : Addr).add i).add j = ⟨b, off + i + j, none⟩ := fun i j => by rw [Go.WideShapes.add_plain, Go.WideShapes.add_plain]
      refine .inr ⟨b, off, rfl, World.block_lt_of_cell? W ⟨b, off + 0 * 3 + 0, none⟩ (by rw [← hadd]; exact (hf 0 hpos).2.1), fun j hj => ?_⟩
      obtain ⟨_, r0, r1, r2⟩ := hf j hj
      rw [hadd] at r0 r1 r2
      exact ⟨r0, r1, r2⟩
end Go.Proofs.YtllipbkpbopomaaDoor.Sp
