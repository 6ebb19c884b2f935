/-
  The reader of package chunk: a chunk, or the first fault, which is caught; what Decode of package chunk tells.
  Conditions: the numbers lie within their kinds, the cells hold them; the bytes lie in the memory of an older world, which the reader does not touch.
-/
import Derived.Test.YtifdkpifambhaaaChQ
import Derived.Test.YtifdkpifambhaaaChU
import Derived.Defers
import Derived.Recover
namespace Go.Proofs.Ytifdkpifambhaaa.Chu
open Go.ChangeShapes Go.WideShapes Go.ChangeAt Go.RowKit
open Par (hidden Bytes Row Prm Prms cell_lt Cap cells_new cutA thrown form_of)
set_option linter.unusedVariables false
attribute [local go_sem ↓] execOp_ld execOp_bx execOp_st

set_option maxRecDepth 20000 in
theorem catch_panicking (p : Addr) (x : Int) (f : Int) (older : List PanicEntry) (w : World) (hc : w.cell? p = some (.int .i64 x)) (hz : w.frozen? p = false) :
    CallsD Try.prog 55 #[.pointer (some p)] (.panicking ({ v := .iface 24 (.int .i64 f), recovered := false } :: older)) w fun e u' w' =>
      e = .returned (.tuple #[]) ∧ u' = .panicking ({ v := .iface 24 (.int .i64 f), recovered := true } :: older) ∧ w' = w.setCell p (.int .i64 f) := by
  have hta : ∀ w : World, (Instr.typeAssert (.iface 24 (.int .i64 f)) 20 24 false).run Try.prog w = .ok (.int .i64 f) w := fun w => by rfl
  refine callsD_of_wpS Try.func55 rfl fun c₀ cs hu => ?_
  apply wpS_seq
  apply wpS_region
  simp [wpOpsS, go_sem, recoverD, hu, Try.ntmps55, Exit.thenS]
  refine wpS_of_wp ?_
  go_wp2
  simp [bodyPostS, results, Try.results55]
theorem catch_idle (p : Addr) (w : World) :
    CallsD Try.prog 55 #[.pointer (some p)] .returning w fun e u' w' => e = .returned (.tuple #[]) ∧ u' = .returning ∧ w' = w := by
  refine callsD_of_wpS Try.func55 rfl fun c₀ cs hu => ?_
  apply wpS_seq
  apply wpS_region
  simp [wpOpsS, go_sem, recoverD, hu, Try.ntmps55, Exit.thenS]
  refine wpS_of_wp ?_
  go_wp2
  cases c₀
  simp_all [bodyPostS, results, Try.results55]

/-- what chunk has while it reads: the reader stands at p, the chunk so far lies behind the call's memory, the error is 0 -/
def Rs (base : Nat) (w0 w wx : World) (B : Nat) (zs : List Int) (p : Nat) (c : Ck) : Prop :=
  Rp base w0 wx B zs p ∧ Bx wx w.heap.size c ∧ wx.heap[w.heap.size + 1]? = some (.cells #[.int .i64 0] 24 (0, 0)) ∧ w.grownBy wx (some B) ∧ B < w.heap.size ∧ w.heap.size + 2 ≤ wx.heap.size
theorem Rs.read {base : Nat} {w0 w wx wy : World} {B p q : Nat} {zs : List Int} {c : Ck} (h : Rs base w0 w wx B zs p c) (hR : Rp base w0 wy B zs q) (hg : wx.grownBy wy (some B)) : Rs base w0 w wy B zs q c := by
  obtain ⟨h1, h2, h3, h4, h5, h6⟩ := h
  have hs : wx.heap.size ≤ wy.heap.size := by obtain ⟨_, _, _, h, _⟩ := hg; exact h
  refine ⟨hR, h2.grown hg (by omega), ?_, gr_trans h4 hg, h5, by omega⟩
  obtain ⟨_, _, _, _, h⟩ := hg
  exact (h _ (by omega) (by simp; omega)).trans h3
theorem Rs.store {base : Nat} {w0 w wx : World} {B p i : Nat} {zs : List Int} {c c' : Ck} {u : Value} (h : Rs base w0 w wx B zs p c) (hx : Bx (wx.setCell ⟨w.heap.size, i, none⟩ u) w.heap.size c') : Rs base w0 w (wx.setCell ⟨w.heap.size, i, none⟩ u) B zs p c' := by
  obtain ⟨h1, h2, h3, h4, h5, h6⟩ := h
  have hg := gr_set wx w.heap.size i u
  have hb : ∀ k, k ≠ w.heap.size → k < wx.heap.size → (wx.setCell ⟨w.heap.size, i, none⟩ u).heap[k]? = wx.heap[k]? := by
    obtain ⟨_, _, _, _, h⟩ := hg
    exact fun k hk hl => h k hl (by simp; exact hk)
  have hw := h1.2.2.2.1.size
  have hwB := h1.2.2.2.2
  refine ⟨⟨h1.1.same (hb B (by omega) (by omega)), h1.2.1, h1.2.2.1, ?_, h1.2.2.2.2⟩, hx, (hb _ (by omega) (by omega)).trans h3, gr_own h4 hg (fun k hk => by cases hk; exact Nat.le_refl _), h5, by simpa [World.setCell] using h6⟩
  exact h1.2.2.2.1.grown hg h1.2.2.2.1.size (fun k hk => by cases hk; omega)
theorem Rs.drew {base : Nat} {w0 w wx : World} {B p : Nat} {zs : List Int} {c : Ck} (h : Rs base w0 w wx B zs p c) : Rs base w0 w wx.drew B zs p c :=
  ⟨⟨h.1.1, h.1.2.1, h.1.2.2.1, Par.below_drewN h.1.2.2.2.1 1, h.1.2.2.2.2⟩, h.2.1, h.2.2.1, gr_drew h.2.2.2.1, h.2.2.2.2⟩
theorem Rs.c3 {base : Nat} {w0 w wx : World} {B p : Nat} {zs : List Int} {c : Ck} (h : Rs base w0 w wx B zs p c) : wx.cell? ⟨w.heap.size + 1, 0, none⟩ = some (.int .i64 0) ∧ wx.frozen? ⟨w.heap.size + 1, 0, none⟩ = false := by
  simp [World.cell?, World.frozen?, h.2.2.1]
theorem Rs.rd {base : Nat} {w0 w wx : World} {B p : Nat} {zs : List Int} {c : Ck} (h : Rs base w0 w wx B zs p c) : ∃ a len cap, wx.cell? ⟨B, 0, none⟩ = some (.slice a len cap) ∧ len = zs.length - p := by
  obtain ⟨⟨⟨a, len, cap, h1, hrow, _, _⟩, _⟩, _⟩ := h
  exact ⟨a, len, cap, (rd_c h1).1, by rw [← hrow.1, List.length_drop]⟩
/-- behind a fault: the chunk so far, the error stored -/
theorem bad_end {w w2 : World} {B : Nat} {c' : Ck} (f : Int) (hx : Bx w2 w.heap.size c') (he : w2.heap[w.heap.size + 1]? = some (.cells #[.int .i64 0] 24 (0, 0))) (hg : w.grownBy w2 (some B)) :
    Bx (w2.setCell ⟨w.heap.size + 1, 0, none⟩ (.int .i64 f)) w.heap.size c' ∧ w.grownBy (w2.setCell ⟨w.heap.size + 1, 0, none⟩ (.int .i64 f)) (some B) ∧ (w2.setCell ⟨w.heap.size + 1, 0, none⟩ (.int .i64 f)).cell? ⟨w.heap.size + 1, 0, none⟩ = some (.int .i64 f) := by
  have hs := gr_set w2 (w.heap.size + 1) 0 (.int .i64 f)
  refine ⟨hx.grown hs (by omega), gr_own hg hs (fun k hk => by cases hk; omega), ?_⟩
  exact World.cell?_setCell_same w2 ⟨w.heap.size + 1, 0, none⟩ (.int .i64 f) (by simp [World.cell?, he]; rfl)
/-- what chunk tells -/
def Got (base : Nat) (w0 w : World) (B : Nat) (zs : List Int) (v : Value) (w' : World) : Prop :=
  ∃ c er y m, v = .tuple #[cv c, .int .i64 er] ∧ Dec zs er y m ∧ w.grownBy w' (some B) ∧ (er = 0 → val c = y ∧ Lsts w.heap.size w' c ∧ Rp base w0 w' B zs m)
end Go.Proofs.Ytifdkpifambhaaa.Chu
