/-
  What the document's answers for sets (package ropewalkref03) do: a row of distances in memory, asked and changed.
  Conditions: the set's row rises, its numbers lie from 2 to 65535.
-/
import Derived.Test.YtdifceikfnnfeaaDoorSpFill
import Derived.Test.YtdifceikfnnfeaaDoorSpMiss
import Derived.Deep.AppendLies
import Derived.Deep.RegionHeld3
import Derived.Deep.DrawnRows
namespace Go.Proofs.YtdifceikfnnfeaaDoor.Sp
open Go.RowKit Go.Shelf Go.ChangeShapes Go.WideShapes Go.ChangeAt
set_option linter.unusedVariables false

def intV (d : Nat) : Value := .int .i64 (d : Int)
theorem info3 : (Tryd.prog.info? 3).map (fun i => (i.zero, i.size, i.bytes)) = some (some (.int .i64 0), 1, 8) := by kernel_rfl

/-- block b holds the document's set: cum, and a row of its distances -/
def IsRef (w : World) (b c : Nat) (L : List Nat) : Prop :=
  c < 4294967296 ∧ Good 2 L ∧ ∃ v, w.heap[b]? = some (.cells #[.int .u32 (c : Int), v] 54 (0, 0)) ∧ w.ownsRow 0 3 1 v L.length (L.map intV)
theorem IsRef.lt {w : World} {b c : Nat} {L : List Nat} (h : IsRef w b c L) : b < w.heap.size := by
  obtain ⟨_, _, v, h1, _⟩ := h; exact (Array.getElem?_eq_some_iff.1 h1).1
theorem IsRef.below {w w' : World} {b c : Nat} {L : List Nat} (h : IsRef w b c L) (hB : Below w.heap.size w w') : IsRef w' b c L := by
  have hl := h.lt
  obtain ⟨h1, h2, v, h3, h4⟩ := h
  exact ⟨h1, h2, v, (hB.block b hl).trans h3, h4.kept (Below.grown0 hB) (by cases h : v.ownBlock <;> simp)⟩
/-- a set of the program's that changes leaves it -/
theorem IsRef.grownS {w w' : World} {b c bs cs : Nat} {L Ls : List Nat} (h : IsRef w b c L) (hS : IsSet w bs cs Ls) (hg : w.grownBy w' (some bs)) : IsRef w' b c L := by
  have hl := h.lt
  obtain ⟨h1, h2, v, h3, h4⟩ := h
  obtain ⟨_, _, R, ⟨ccs, hb, _⟩, _⟩ := hS
  refine ⟨h1, h2, v, (hg.block b hl (fun e => ?_)).trans h3, h4.kept hg ?_⟩
  · cases e; rw [h3] at hb; cases hb
  · cases hv : v.ownBlock with
    | none => exact .inl rfl
    | some g =>
      refine .inr fun e => ?_
      cases e
      rcases h4.2 with ⟨rfl, _⟩ | ⟨g, cap, cur, rfl, _, hg', _⟩
      · cases hv
      · simp only [Value.ownBlock, Option.some.injEq] at hv
        subst hv
        rw [hg'] at hb; cases hb
/-- what is read of it -/
theorem IsRef.read {w : World} {b c : Nat} {L : List Nat} (h : IsRef w b c L) : w.cell? ⟨b, 0, none⟩ = some (.int .u32 (c : Int)) ∧ ∃ a cap, w.cell? ⟨b, 1, none⟩ = some (.slice a L.length cap) ∧
    (L.length = 0 ∨ ∃ g, a = some ⟨g, 0, none⟩ ∧ g < w.heap.size ∧ ∀ j, j < L.length → w.cell? ⟨g, j, none⟩ = some (.int .i64 (L.getD j 0 : Int))) := by
  obtain ⟨h1, h2, v, h3, h4⟩ := h
  refine ⟨by simp [World.cell?, h3], ?_⟩
  rcases h4.2 with ⟨rfl, h0⟩ | ⟨g, cap, cur, rfl, _, hg, _⟩
  · exact ⟨none, 0, by rw [h0]; simp [World.cell?, h3], .inl h0⟩
  · refine ⟨some ⟨g, 0, none⟩, cap, by simp [World.cell?, h3], .inr ⟨g, rfl, (Array.getElem?_eq_some_iff.1 hg).1, fun j hj => ?_⟩⟩
    rw [h4.cellAt j (by omega), List.getElem?_map, List.getElem?_eq_getElem hj, List.getD_eq_getElem?_getD, List.getElem?_eq_getElem hj]; rfl

theorem rnew (c : Nat) (hc : c < 4294967296) (w : World) :
    Calls Tryd.prog 36 #[.int .u32 (c : Int)] w fun e w' => e = .returned (.pointer (some ⟨w.heap.size, 0, none⟩)) ∧ IsRef w' w.heap.size c [] ∧ Below w.heap.size w w' := by
  go_enter Tryd.func36, Tryd.ntmps36
  go_wp2
  go_ret
  exact ⟨rfl, ⟨hc, good_nil 2, _, heap_alloc_new w _, World.ownsRow_nil _ _ _ _⟩, (Below.refl _ w).alloc (Nat.le_refl _) _⟩

theorem rhas (d : Int) (w : World) {b c : Nat} {L : List Nat} (h : IsRef w b c L) (hlen : L.length ≤ 65536) :
    Calls Tryd.prog 62 #[.pointer (some ⟨b, 0, none⟩), .int .i64 d] w fun e w' => e = .returned (.bool (decide (∃ x ∈ L, (x : Int) = d))) ∧ w = w' := by
  obtain ⟨c0, a, cap, c1, hor⟩ := h.read
  go_enter Tryd.func62, Tryd.ntmps62
  go_wp2
  go_loop [5] (fun i => ∃ q : Int, 0 ≤ q ∧ q ≤ (L.length : Int) ∧ i = .int .i64 q ∧ Hid (∀ j : Nat, (j : Int) < q → (L.getD j 0 : Int) ≠ d)) (fun i => L.length - (intOf i).toNat)
  case atStart => exact ⟨0, by omega, by omega, rfl, fun j hj => by omega⟩
  case round =>
    obtain ⟨q, hq0, hq, rfl, hno⟩ := hrel
    by_cases hlt : q < (L.length : Int)
    · obtain ⟨g, rfl, hgl, hc⟩ := hor.resolve_left (by omega)
      have k1 := hc q.toNat (by omega)
      have hmem : L.getD q.toNat 0 ∈ L := by
        rw [List.getD_eq_getElem?_getD, List.getElem?_eq_getElem (by omega)]; exact List.getElem_mem _
      obtain ⟨z, hz⟩ : ∃ z : Int, Hid ((L.getD q.toNat 0 : Int) = z) := ⟨_, rfl⟩
      rw [hz.out] at k1
      have HM : Hid (L.getD q.toNat 0 ∈ L) := hmem
      clear hc hor hmem
      by_cases hzd : z = d
      · subst hzd
        go_wp2
        go_ret
        refine Ser.fin_bool (Eq.symm ?_)
        exact decide_eq_true ⟨_, HM.out, hz.out⟩
      · have hzd' : (z == d) = false := by simpa using hzd
        go_wp2
        go_round
        case rel =>
          refine ⟨q + 1, by omega, by omega, rfl, fun j hj => ?_⟩
          by_cases hjq : (j : Int) < q
          · exact hno.out j hjq
          · rw [show j = q.toNat by omega, hz.out]; exact hzd
        case measure => simp only [intOf]; omega
    · clear hor
      go_wp2
      go_ret
      refine Ser.fin_bool (Eq.symm ?_)
      refine decide_eq_false ?_
      rintro ⟨x, hx, hxd⟩
      obtain ⟨j, hj, rfl⟩ := List.mem_iff_getElem.1 hx
      refine hno.out j (by omega) ?_
      rw [List.getD_eq_getElem?_getD, List.getElem?_eq_getElem hj]; exact hxd

theorem rHas (t : Nat) (ht : t < 4294967296) (w : World) {b c : Nat} {L : List Nat} (h : IsRef w b c L) :
    Calls Tryd.prog 42 #[.pointer (some ⟨b, 0, none⟩), .int .u32 (t : Int)] w fun e w' => e = .returned (.bool (isIn c L t)) ∧ w = w' := by
  have hc := h.1
  have hb := Ser.dist32_bounds (c : Int) (t : Int)
  have c0 := h.read.1
  have hlen := good_len h.2.1
  go_enter Tryd.func42, Tryd.ntmps42
  go_wp2_with fail
  refine (Ser.rdiff (c : Int) (t : Int) (by omega) (by omega) _).mono ?_
  rintro e w' ⟨rfl, rfl⟩
  have hi : Hid (isIn c L t = (decide (Ser.dist 4294967296 (c : Int) (t : Int) ≤ 0) || decide ((Ser.dist 4294967296 (c : Int) (t : Int)).toNat ∈ L))) := rfl
  generalize Ser.dist 4294967296 (c : Int) (t : Int) = D at hb hi ⊢
  by_cases h0 : D ≤ 0
  · go_wp2
    go_ret
    refine Ser.fin_bool ?_
    rw [hi.out, decide_eq_true h0]; rfl
  · go_wp2_with fail
    refine (rhas D _ h hlen).mono ?_
    rintro e w' ⟨rfl, rfl⟩
    have he : Hid (decide (∃ x ∈ L, (x : Int) = D) = isIn c L t) := by
      unfold Hid
      rw [hi.out, decide_eq_false (show ¬ D ≤ 0 by omega), Bool.false_or]
      refine decide_eq_decide.2 ⟨?_, fun hm => ⟨_, hm, by omega⟩⟩
      rintro ⟨x, hx, hxd⟩
      rw [show D.toNat = x by omega]; exact hx
    rw [he.out]
    obtain ⟨r, hr⟩ : ∃ r, Hid (isIn c L t = r) := ⟨_, rfl⟩
    rw [hr.out]
    go_wp2
    go_ret
    refine Ser.fin_bool ?_
    rw [hr.out, decide_eq_false (show ¬ D ≤ 0 by omega)]; rfl

end Go.Proofs.YtdifceikfnnfeaaDoor.Sp
