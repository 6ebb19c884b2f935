/-
  Blocks of a row in the order of their starts; is there a block that is none?
  Conditions: the row can be read, at most 65536 blocks.
-/
import Derived.Test.YtllipbkpbopomaaDoorSpVals
import Derived.Shelf.SlSortCmp.NoneTotal
namespace Go.Proofs.YtllipbkpbopomaaDoor.Sp
open Go.RowKit Go.Shelf Go.Lib Go.Sort Go.ChangeShapes Go.WideShapes Go.ChangeAt
set_option linter.unusedVariables false
attribute [local go_sem] Oper.semAt_some

theorem sortAll (w : World) (n₀ : Nat) (v : Value) (X : List (Nat × Nat)) (h : w.ownsRow n₀ 76 2 v X.length (X.flatMap gapC)) (hn : n₀ ≤ w.heap.size) (hX : X.length ≤ 65536) :
    Calls Tryd.prog 62 #[v, .func (.func 57) #[] #[]] w fun e w' => e = .returned (.tuple #[]) ∧ ∃ X' : List (Nat × Nat), X'.Perm X ∧ X'.Pairwise (fun a b => a.1 ≤ b.1) ∧ Gps w' v X' ∧ Below n₀ w w' := by
  by_cases h0 : 0 < X.length
  · exact sortGaps w n₀ v X h hn hX h0
  · have e0 : X = [] := List.eq_nil_of_length_eq_zero (by omega)
    subst e0
    obtain ⟨va, vc, rfl⟩ := row_len h
    refine (AnyF.slices_SortFunc_none Tryd.sortGap va vc (.func (.func 57) #[] #[]) w).mono ?_
    rintro e w' ⟨rfl, rfl⟩
    exact ⟨rfl, [], .refl _, .nil, ⟨by simp, va, vc, rfl, .inl rfl⟩, Below.refl _ _⟩

theorem sortedFunc (w : World) (p : Option Addr) (X : List (Nat × Nat)) (hH : HandsV w.heap.size p X w) (hX : X.length ≤ 65536) :
    Calls Tryd.prog 55 #[.func (.func 63) #[] #[.pointer p], .func (.func 57) #[] #[]] w fun e w' => ∃ v, e = .returned v ∧ ∃ X' : List (Nat × Nat), X'.Perm X ∧ X'.Pairwise (fun a b => a.1 ≤ b.1) ∧ Gps w' v X' ∧ Below w.heap.size w w' := by
  have HC : Hid _ := collect w p X hH hX
  clear hH
  go_enter Tryd.func55, Tryd.ntmps55
  go_wp2_with fail
  refine Calls.mono HC.out ?_
  rintro e w' ⟨v, rfl, h1, h2⟩
  have H1 : Hid _ := h1
  clear h1
  go_wp2_with fail
  refine Calls.mono (sortAll _ w.heap.size v X H1.out h2.size hX) ?_
  rintro e w2 ⟨rfl, X', g1, g2, g3, g4⟩
  have H2 : Hid _ := g3
  clear g3
  go_wp2
  go_ret
  exact ⟨_, rfl, X', g1, g2, H2.out, h2.trans g4⟩

theorem values (w : World) (a : Option Addr) (len cap : Nat) :
    Calls Tryd.prog 56 #[.slice a len cap] w fun e w' => e = .returned (.func (.func 63) #[] #[.pointer (some ⟨w.heap.size, 0, none⟩)]) ∧ w'.cell? ⟨w.heap.size, 0, none⟩ = some (.slice a len cap) ∧ Below w.heap.size w w' ∧ w.heap.size < w'.heap.size := by
  go_enter Tryd.func56, Tryd.ntmps56
  go_wp2
  go_ret
  exact ⟨rfl, (Boxed.new w 41 _).cell, (Below.refl _ w).alloc (Nat.le_refl _) _, by simp⟩

/-- no number lies in the block, or one that never lies above -/
def bad (g : Nat × Nat) : Bool := decide (g.1 < 2) || decide (g.2 < g.1)

theorem noBlock (g : Nat × Nat) (w : World) :
    Calls Tryd.prog 47 #[gapV g] w fun e w' => e = .returned (.bool (bad g)) ∧ Below w.heap.size w w' := by
  obtain ⟨x, y⟩ := g
  have hb : Hid (bad (x, y) = (decide (x < 2) || decide (y < x))) := rfl
  unfold gapV
  go_enter Tryd.func47, Tryd.ntmps47
  go_wp2
  all_goals go_ret
  all_goals (refine ⟨?_, (Below.refl _ w).alloc (Nat.le_refl _) _⟩)
  all_goals (rw [hb.out]; refine congrArg Ending.returned (congrArg Value.bool ?_); rw [Bool.eq_iff_iff]; simp; omega)

theorem any_next {X : List (Nat × Nat)} {q : Int} {gp : Nat × Nat} (h0 : 0 ≤ q) (hN : Hid (∀ j, j < q.toNat → bad (X.getD j (0, 0)) = false)) (hg : Hid (X.getD q.toNat (0, 0) = gp)) (hb : bad gp = false) : Hid (∀ j, j < (q + 1).toNat → bad (X.getD j (0, 0)) = false) := by
  intro j hj
  by_cases h : j < q.toNat
  · exact hN.out j h
  · rw [show j = q.toNat by omega, hg.out, hb]
theorem any_yes {X : List (Nat × Nat)} {k : Nat} {gp : Nat × Nat} (h : k < X.length) (hg : Hid (X.getD k (0, 0) = gp)) (hb : bad gp = true) : true = X.any bad := by
  refine (List.any_eq_true.2 ⟨gp, ?_, hb⟩).symm
  rw [← hg.out, List.getD_eq_getElem?_getD, List.getElem?_eq_getElem h]
  exact List.getElem_mem h
theorem any_no {X : List (Nat × Nat)} {k : Nat} (h : X.length = k) (hN : Hid (∀ j, j < k → bad (X.getD j (0, 0)) = false)) : decide (0 ≤ (-1 : Int)) = X.any bad := by
  refine (List.any_eq_false.2 fun g hg => ?_).symm
  obtain ⟨j, hj, rfl⟩ := List.mem_iff_getElem.1 hg
  have := hN.out j (by omega)
  rw [List.getD_eq_getElem?_getD, List.getElem?_eq_getElem hj] at this
  simpa using this

theorem indexFunc (w : World) (a : Option Addr) (len cap : Nat) (X : List (Nat × Nat)) (h : RowG w a len X) :
    Calls Tryd.prog 54 #[.slice a len cap, .func (.func 47) #[] #[]] w fun e w' => ∃ r : Int, e = .returned (.int .i64 r) ∧ (decide (0 ≤ r) = X.any bad) ∧ Below w.heap.size w w' := by
  obtain ⟨hX, hbd, hlim, hor⟩ := h
  have HOR : Hid _ := hor
  clear hor
  have HBD : Hid _ := hbd
  clear hbd
  go_enter Tryd.func54, Tryd.ntmps54
  go_wp2_with fail
  go_loopw [8] (fun i wr => ∃ q : Int, 0 ≤ q ∧ q ≤ (len : Int) ∧ i = .int .i64 q ∧ Hid (∀ j, j < q.toNat → bad (X.getD j (0, 0)) = false) ∧ Below w.heap.size w wr) (fun i wr => len - (intOf i).toNat)
  case atStart => exact ⟨0, by omega, by omega, rfl, (fun j hj => by simp at hj), Below.refl _ _⟩
  case round =>
    obtain ⟨q, hq0, hq, rfl, hN, hB⟩ := hrel
    by_cases hlt : q < (len : Int)
    · obtain ⟨b, off, rfl, hb, hc⟩ := HOR.out.resolve_left (by omega)
      have k0 := (hB.cell (p := ⟨b, off + q.toNat * 2, none⟩) hb).trans (hc q.toNat (by omega)).1
      have k1 := (hB.cell (p := ⟨b, off + q.toNat * 2 + 1, none⟩) hb).trans (hc q.toNat (by omega)).2
      clear hc
      obtain ⟨gp, hgp⟩ : ∃ gp, X.getD q.toNat (0, 0) = gp := ⟨_, rfl⟩
      rw [hgp] at k0 k1
      have HG : Hid _ := hgp
      clear hgp
      have HN : Hid _ := fun W => noBlock gp W
      unfold gapV at HN
      go_wp2_with fail
      refine (HN.out _).mono ?_
      rintro e w4 ⟨rfl, hB4⟩
      rcases hbb : bad gp with _ | _
      · go_wp2
        go_roundw
        case rel => exact ⟨q + 1, by omega, by omega, rfl, any_next (by omega) hN HG hbb, hB.trans (hB4.mono hB.size)⟩
        case measure => simp only [intOf]; omega
      · go_wp2
        go_ret
        exact ⟨q, rfl, by rw [decide_eq_true hq0]; exact any_yes (hX ▸ (by omega : q.toNat < len)) HG hbb, hB.trans (hB4.mono hB.size)⟩
    · have hqe : Hid (q.toNat = len) := by unfold Hid; omega
      go_wp2
      go_ret
      exact ⟨-1, rfl, any_no (hX.trans hqe.out.symm) hN, hB⟩

theorem containsFunc (w : World) (a : Option Addr) (len cap : Nat) (X : List (Nat × Nat)) (h : RowG w a len X) :
    Calls Tryd.prog 46 #[.slice a len cap, .func (.func 47) #[] #[]] w fun e w' => e = .returned (.bool (X.any bad)) ∧ Below w.heap.size w w' := by
  have HC : Hid _ := indexFunc w a len cap X h
  clear h
  go_enter Tryd.func46, Tryd.ntmps46
  go_wp2_with fail
  refine Calls.mono HC.out ?_
  rintro e w' ⟨r, rfl, h1, h2⟩
  have H1 : Hid _ := h1
  clear h1
  go_wp2
  go_ret
  exact ⟨by rw [← H1.out]; rfl, h2⟩
end Go.Proofs.YtllipbkpbopomaaDoor.Sp
