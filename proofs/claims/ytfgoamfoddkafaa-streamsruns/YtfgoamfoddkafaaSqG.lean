/-
  A rest is numbered, and dropped.
  Conditions: the lane and its row lie in memory.
-/
import Derived.Test.YtfgoamfoddkafaaSqC
namespace Go.Proofs.Ytfgoamfoddkafaa.Sq
open Go.ChangeShapes Go.WideShapes Go.ChangeAt Go.RowKit
open Ba (hidden Has Only cell_lt heap_lt)
set_option linter.unusedVariables false

theorem number_un {w : World} {b o g r0 : Nat} (h3 : w.cell? ⟨g, r0 + 3, none⟩ = some (.bool true)) : Calls Try.prog 37 #[.pointer (some ⟨b, o, none⟩), .pointer (some ⟨g, r0, none⟩)] w fun e w' => e = .returned (.tuple #[]) ∧ w = w' := by
  go_enter Try.func37, Try.ntmps37
  go_wp2
  go_end0
  exact ⟨rfl, rfl⟩
theorem number_or {w : World} {b o g r0 : Nat} {cs cur : Array Value} {s : Int} {u : Value} (hc : Has w b cs 71) (hcs : cs[o + 1]? = some (.int .u16 s)) (hh : Has w g cur 44) (h3 : cur[r0 + 3]? = some (.bool false)) (h1 : cur[r0 + 1]? = some u) (hs : 0 ≤ s ∧ s < 65536) :
    Calls Try.prog 37 #[.pointer (some ⟨b, o, none⟩), .pointer (some ⟨g, r0, none⟩)] w fun e w' => e = .returned (.tuple #[]) ∧ Has w' g (cur.setIfInBounds (r0 + 1) (.int .u16 s)) 44 ∧ Has w' b (cs.setIfInBounds (o + 1) (.int .u16 ((s + 1) % 65536))) 71 ∧ Mod (fun k => k = b ∨ k = g) w w' := by
  have c3 := hh.cell _ h3
  have c1 := hh.cell _ h1
  have f1 := hh.frozen (r0 + 1)
  have c4 := hc.cell _ hcs
  have f4 := hc.frozen (o + 1)
  have hne : g ≠ b := hh.ne hc (by decide)
  have hw : ∀ x : Int, IntKind.u16.wrap x = x % 65536 := fun _ => rfl
  have HC := hidden hc
  have HH := hidden hh
  have HN := hidden hne
  have c4' : (w.setCell ⟨g, r0 + 1, none⟩ (.int .u16 s)).cell? ⟨b, o + 1, none⟩ = some (.int .u16 s) := (hc.set_other (p := ⟨g, r0 + 1, none⟩) (fun e => hne e.symm) _).cell _ hcs
  clear hc hh h3 h1 hcs
  go_enter Try.func37, Try.ntmps37
  go_wp2
  go_end0
  refine ⟨rfl, ?_, ?_, ?_⟩
  · exact (HH.out.set _ _).set_other (p := ⟨b, o + 1, none⟩) HN.out _
  · exact (HC.out.set_other (p := ⟨g, r0 + 1, none⟩) (fun e => HN.out e.symm) _).set _ _
  · exact (Mod.setCell (F := fun k => k = b ∨ k = g) w (p := ⟨g, r0 + 1, none⟩) (.inr rfl) _).trans (Mod.setCell (F := fun k => k = b ∨ k = g) _ (p := ⟨b, o + 1, none⟩) (.inl rfl) _) (fun k hk => .inl hk)
theorem store_at {P : Program} {w : World} {g r0 : Nat} {cur cells : Array Value} {t ty : TypeId} (h : Has w g cur t) (hi : (P.info? ty).map (·.size) = some cells.size) (ho : r0 + cells.size ≤ cur.size) (h1 : cells.all (·.oneCell') = true) :
    (Instr.storeAt ty (.pointer (some ⟨g, r0, none⟩)) (.agg cells)).run P w = .ok () (w.setCells g r0 cells.toList) := by
  have := run_storeCells_cells (P := P) g r0 cells.toList 0 w (fun j hj => by
    have hj' : j < cells.size := by simpa using hj
    rw [Nat.add_zero, h.cell (r0 + j) (Array.getElem?_eq_getElem (by omega))]; rfl) (fun j hj => h.frozen _) (fun v hv => (Array.all_eq_true_iff_forall_mem.1 h1) v (by simpa using hv))
  simp only [Nat.add_zero] at this
  simp only [Instr.storeAt, Instr.sureAddr, Sem.run_bind, Sem.run_pure, Result.andThen_ok]
  cases hq : P.info? ty with
  | none => simp [hq] at hi
  | some i =>
    have hs : cells.size = i.size := by simp [hq] at hi; omega
    simp [storeVar, sizeOf, typeInfo, hq, Value.cells, hs, this]
theorem set_set (cs : Array Value) (o : Nat) (x y : Value) : (cs.setIfInBounds o x).setIfInBounds o y = cs.setIfInBounds o y := by
  apply Array.ext'
  simp
def zP : Array Value := #[.int .u16 0, .int .u16 0, .int .u32 0, .bool false, .slice none 0 0, .bool false, .bool false]
theorem drop_ {w : World} {b o g r0 m cap : Nat} {cs cur : Array Value} (hc : Has w b cs 71) (hcs : cs[o]? = some (.slice (some ⟨g, r0, none⟩) (m + 1) cap)) (hh : Has w g cur 44) (hr : r0 + 7 ≤ cur.size) (hm : m + 1 ≤ cap) :
    Calls Try.prog 38 #[.pointer (some ⟨b, o, none⟩)] w fun e w' => e = .returned (.tuple #[]) ∧ Has w' b (cs.setIfInBounds o (if m = 0 then .slice none 0 0 else .slice (some ⟨g, r0 + 7, none⟩) m (cap - 1))) 71 ∧ (∃ cur', Has w' g cur' 44 ∧ cur'.size = cur.size ∧ ∀ j, r0 + 7 ≤ j → cur'[j]? = cur[j]?) ∧ Mod (fun k => k = b ∨ k = g) w w' := by
  have hne : g ≠ b := hh.ne hc (by decide)
  have c0 := hc.cell _ hcs
  obtain ⟨cur1, k1, k2, k3, k4⟩ := has_cells g 44 zP.toList r0 w cur hh hr
  have hm1 : Mod (fun k => k = b ∨ k = g) w (w.setCells g r0 zP.toList) := mod_cells _ g (.inr rfl) _ _ _
  have hc1 : Has (w.setCells g r0 zP.toList) b cs 71 := (mod_cells (fun k => k = g) g rfl zP.toList r0 w).has hc (fun e => hne e.symm)
  obtain ⟨W1, hW1⟩ : ∃ W1, w.setCells g r0 zP.toList = W1 := ⟨_, rfl⟩
  have HW1 : Hid (W1 = (((((((w.setCell ⟨g, r0, none⟩ (.int .u16 0)).setCell ⟨g, r0 + 1, none⟩ (.int .u16 0)).setCell ⟨g, r0 + 2, none⟩ (.int .u32 0)).setCell ⟨g, r0 + 3, none⟩ (.bool false)).setCell ⟨g, r0 + 4, none⟩ (.slice none 0 0)).setCell ⟨g, r0 + 5, none⟩ (.bool false)).setCell ⟨g, r0 + 6, none⟩ (.bool false))) := by rw [← hW1]; rfl
  rw [hW1] at k1 hm1 hc1
  have c1 := hc1.cell _ hcs
  have f1 := hc1.frozen o
  have hin : ∀ j, j < 7 → ∃ u, w.cell? ⟨g, r0 + j, none⟩ = some u := fun j hj => ⟨_, hh.cell _ (Array.getElem?_eq_getElem (by omega))⟩
  obtain ⟨u0, a0⟩ := hin 0 (by decide)
  obtain ⟨u1, a1⟩ := hin 1 (by decide)
  obtain ⟨u2, a2⟩ := hin 2 (by decide)
  obtain ⟨u3, a3⟩ := hin 3 (by decide)
  obtain ⟨u4, a4⟩ := hin 4 (by decide)
  obtain ⟨u5, a5⟩ := hin 5 (by decide)
  obtain ⟨u6, a6⟩ := hin 6 (by decide)
  rw [Nat.add_zero] at a0
  have z0 := hh.frozen r0
  have z1 := hh.frozen (r0 + 1)
  have z2 := hh.frozen (r0 + 2)
  have z3 := hh.frozen (r0 + 3)
  have z4 := hh.frozen (r0 + 4)
  have z5 := hh.frozen (r0 + 5)
  have z6 := hh.frozen (r0 + 6)
  have HC1 := hidden hc1
  have HK1 := hidden k1
  have HK := hidden (And.intro k2 k3)
  have HM := hidden hm1
  have HN := hidden hne
  clear hc hh hcs hW1 k1 k2 k3 k4 hm1 hc1 hne hin
  by_cases h0 : m = 0
  · subst h0
    rw [if_pos rfl]
    go_enter Try.func38, Try.ntmps38
    go_upto_region 1 with fail
    rw [← HW1.out]
    clear a0 a1 a2 a3 a4 a5 a6 z0 z1 z2 z3 z4 z5 z6 u0 u1 u2 u3 u4 u5 u6
    go_wp2
    all_goals
      go_end0
      refine ⟨rfl, ?_, ⟨cur1, (HK1.out.set_other (p := ⟨b, o, none⟩) HN.out _).set_other (p := ⟨b, o, none⟩) HN.out _, HK.out.1, fun j hj => HK.out.2 j (.inr hj)⟩, (HM.out.trans (Mod.setCell (F := fun k => k = b ∨ k = g) W1 (p := ⟨b, o, none⟩) (.inl rfl) _) (fun k hk => .inl hk)).trans (Mod.setCell (F := fun k => k = b ∨ k = g) _ (p := ⟨b, o, none⟩) (.inl rfl) _) (fun k hk => .inl hk)⟩
      rw [← set_set cs o _ (.slice none 0 0)]
      exact (HC1.out.set o _).set o _
  · rw [if_neg h0]
    go_enter Try.func38, Try.ntmps38
    go_upto_region 1 with fail
    rw [← HW1.out]
    clear a0 a1 a2 a3 a4 a5 a6 z0 z1 z2 z3 z4 z5 z6 u0 u1 u2 u3 u4 u5 u6
    have hcap : ¬ cap = 1 := by omega
    go_wp2
    all_goals
      go_end0
      exact ⟨rfl, HC1.out.set o _, ⟨cur1, HK1.out.set_other (p := ⟨b, o, none⟩) HN.out _, HK.out.1, fun j hj => HK.out.2 j (.inr hj)⟩, HM.out.trans (Mod.setCell (F := fun k => k = b ∨ k = g) W1 (p := ⟨b, o, none⟩) (.inl rfl) _) (fun k hk => .inl hk)⟩
end Go.Proofs.Ytfgoamfoddkafaa.Sq
