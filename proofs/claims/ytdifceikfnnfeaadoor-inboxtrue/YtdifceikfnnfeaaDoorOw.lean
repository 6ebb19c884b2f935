/-
  Blocks of one's own: what a function made, behind the calls that it made since.
  Conditions: as at each lemma.
-/
import Derived.Test.YtdifceikfnnfeaaDoorRg
import Derived.Laws.Tables
import Derived.Laws.CopyOwn
namespace Go.Proofs.YtdifceikfnnfeaaDoor.Ow
open Go.ChangeShapes Go.WideShapes Go.ChangeAt Go.RowKit
open Ba (hidden Has)
set_option linter.unusedVariables false

/-- a block, its cells, their type -/
abbrev Bk := Nat × Array Value × TypeId
/-- behind w nothing older has turned, and these newer blocks hold these cells -/
def Own (w w1 : World) (L : List Bk) : Prop := Below w.heap.size w w1 ∧ ∀ x ∈ L, w.heap.size ≤ x.1 ∧ Has w1 x.1 x.2.1 x.2.2
theorem Own.refl (w : World) : Own w w [] := ⟨Below.refl _ w, fun x h => by cases h⟩
theorem Own.below {w w1 : World} {L : List Bk} (h : Own w w1 L) : Below w.heap.size w w1 := h.1
theorem Own.later {w w1 w2 : World} {L : List Bk} (h : Own w w1 L) (hB : Below w1.heap.size w1 w2) : Own w w2 L :=
  ⟨h.1.trans (hB.mono h.1.size), fun x hx => ⟨(h.2 x hx).1, (h.2 x hx).2.later hB⟩⟩
theorem Own.alloc {w w1 : World} {L : List Bk} (h : Own w w1 L) (cs : Array Value) (t : TypeId) : Own w (w1.alloc (.cells cs t)) ((w1.heap.size, cs, t) :: L) := by
  refine ⟨h.1.alloc h.1.size _, fun x hx => ?_⟩
  rcases List.mem_cons.1 hx with rfl | hx
  · exact ⟨h.1.size, Has.new _ _ _⟩
  · exact ⟨(h.2 x hx).1, (h.2 x hx).2.later ((Below.refl _ w1).alloc (Nat.le_refl _) _)⟩
theorem Own.drew {w w1 : World} {L : List Bk} (h : Own w w1 L) : Own w w1.drew L :=
  ⟨h.1.trans ⟨rfl, rfl, rfl, Nat.le_refl _, fun _ _ => rfl⟩, fun x hx => ⟨(h.2 x hx).1, (h.2 x hx).2⟩⟩
theorem Own.cell {w w1 : World} {L : List Bk} (h : Own w w1 L) {b : Nat} {cs : Array Value} {t : TypeId} (hx : (b, cs, t) ∈ L) (i : Nat) {v : Value} (hi : cs[i]? = some v) : w1.cell? ⟨b, i, none⟩ = some v := (h.2 _ hx).2.cell i hi
theorem Own.frozen {w w1 : World} {L : List Bk} (h : Own w w1 L) {b : Nat} {cs : Array Value} {t : TypeId} (hx : (b, cs, t) ∈ L) (i : Nat) : w1.frozen? ⟨b, i, none⟩ = false := (h.2 _ hx).2.frozen i
theorem Own.lt {w w1 : World} {L : List Bk} (h : Own w w1 L) {b : Nat} {cs : Array Value} {t : TypeId} (hx : (b, cs, t) ∈ L) : b < w1.heap.size := (h.2 _ hx).2.lt
theorem Own.has {w w1 : World} {L : List Bk} (h : Own w w1 L) {b : Nat} {cs : Array Value} {t : TypeId} (hx : (b, cs, t) ∈ L) : Has w1 b cs t := (h.2 _ hx).2
theorem Own.sub {w w1 : World} {L M : List Bk} (h : Own w w1 L) (hs : ∀ x ∈ M, x ∈ L) : Own w w1 M := ⟨h.1, fun x hx => h.2 x (hs x hx)⟩
/-- one cell of the first block is set -/
theorem Own.set {w w1 : World} {L : List Bk} {b : Nat} {cs : Array Value} {t : TypeId} (h : Own w w1 ((b, cs, t) :: L)) (i : Nat) (u : Value) (hn : ∀ x ∈ L, x.1 ≠ b) : Own w (w1.setCell ⟨b, i, none⟩ u) ((b, cs.setIfInBounds i u, t) :: L) := by
  obtain ⟨h1, h2⟩ := h
  obtain ⟨hb, hh⟩ := h2 _ (List.mem_cons_self ..)
  refine ⟨?_, fun x hx => ?_⟩
  · refine h1.trans ⟨rfl, rfl, rfl, by simp [World.setCell], fun k hk => Below.heap_setCell _ _ _ _ fun e => ?_⟩
    simp only at e hb
    omega
  · rcases List.mem_cons.1 hx with rfl | hx
    · exact ⟨hb, hh.set i u⟩
    · exact ⟨(h2 x (List.mem_cons_of_mem _ hx)).1, (h2 x (List.mem_cons_of_mem _ hx)).2.set_other (hn x hx) u⟩
/-- the first block is stored whole -/
theorem Own.row {w w1 : World} {L : List Bk} {b : Nat} {cs : Array Value} {t : TypeId} (h : Own w w1 ((b, cs, t) :: L)) (cs' : Array Value) (hn : ∀ x ∈ L, x.1 ≠ b) : Own w (w1.setRow b cs') ((b, cs', t) :: L) := by
  obtain ⟨h1, h2⟩ := h
  obtain ⟨hb, hh⟩ := h2 _ (List.mem_cons_self ..)
  refine ⟨below_setRow h1 hb cs', fun x hx => ?_⟩
  rcases List.mem_cons.1 hx with rfl | hx
  · exact ⟨hb, setRow_heap w1 b cs cs' t (0, 0) hh⟩
  · exact ⟨(h2 x (List.mem_cons_of_mem _ hx)).1, (setRow_other w1 b x.1 cs' (hn x hx)).trans (h2 x (List.mem_cons_of_mem _ hx)).2⟩
theorem store_row {P : Program} {w1 : World} {b : Nat} {cs cs' : Array Value} {t ty : TypeId} (h : Has w1 b cs t) (hi : (P.info? ty).map (·.size) = some cs'.size) (ho : cs.size = cs'.size) (h1 : cs'.all (·.oneCell') = true) :
    (Instr.storeAt ty (.pointer (some ⟨b, 0, none⟩)) (.agg cs')).run P w1 = .ok () (w1.setRow b cs') := by
  simp only [Instr.storeAt, Instr.sureAddr, Sem.run_bind, Sem.run_pure, Result.andThen_ok, run_storeVar_row w1 b t ty cs cs' h hi ho h1]
/-- a call turned the first block alone -/
theorem Own.turn {w w1 w2 : World} {L : List Bk} {b : Nat} {cs cs' : Array Value} {t : TypeId} (h : Own w w1 ((b, cs, t) :: L)) (ho : Ba.Only [b] w1 w2) (hh : Has w2 b cs' t) (hn : ∀ x ∈ L, x.1 ≠ b) : Own w w2 ((b, cs', t) :: L) := by
  obtain ⟨h1, h2⟩ := h
  obtain ⟨hb, _⟩ := h2 _ (List.mem_cons_self ..)
  refine ⟨h1.trans (ho.below h1.size (by simpa using hb)), fun x hx => ?_⟩
  rcases List.mem_cons.1 hx with rfl | hx
  · exact ⟨hb, hh⟩
  · exact ⟨(h2 x (List.mem_cons_of_mem _ hx)).1, (h2 x (List.mem_cons_of_mem _ hx)).2.stay ho (by simpa using hn x hx)⟩
end Go.Proofs.YtdifceikfnnfeaaDoor.Ow
