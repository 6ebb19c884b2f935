/-
  The set that the document makes of a report's blocks.
  Conditions: the row can be read, its blocks are no more than 4096.
-/
import Derived.Test.YtdifceikfnnfeaaDoorSpSame
import Derived.Deep.SlicePairs
import Derived.Deep.OwnRows
namespace Go.Proofs.YtdifceikfnnfeaaDoor.Sp
open Go.RowKit Go.Shelf Go.ChangeShapes Go.WideShapes Go.ChangeAt Go.Deep
set_option linter.unusedVariables false

/-- a row of blocks that can be read -/
def RowG (w : World) (a : Option Addr) (len : Nat) (X : List (Nat × Nat)) : Prop :=
  X.length = len ∧ (∀ g ∈ X, g.1 < 65536 ∧ g.2 < 65536) ∧ len ≤ 281474976710656 ∧ (len = 0 ∨ ∃ b off, a = some ⟨b, off, none⟩ ∧ b < w.heap.size ∧ ∀ j, j < len → w.cell? ⟨b, off + j * 2, none⟩ = some (.int .u16 ((X.getD j (0, 0)).1 : Int)) ∧ w.cell? ⟨b, off + j * 2 + 1, none⟩ = some (.int .u16 ((X.getD j (0, 0)).2 : Int)))
theorem RowG.later {w w' : World} {a : Option Addr} {len : Nat} {X : List (Nat × Nat)} (h : RowG w a len X) (hB : Below w.heap.size w w') : RowG w' a len X := by
  obtain ⟨h0, h1, h2, h⟩ := h
  refine ⟨h0, h1, h2, h.imp id ?_⟩
  rintro ⟨b, off, rfl, hb, hc⟩
  exact ⟨b, off, rfl, Nat.lt_of_lt_of_le hb hB.size, fun j hj => ⟨(hB.cell (p := ⟨b, off + j * 2, none⟩) hb).trans (hc j hj).1, (hB.cell (p := ⟨b, off + j * 2 + 1, none⟩) hb).trans (hc j hj).2⟩⟩

/-- no number lies in the block, or one that never lies above -/
def bad (g : Nat × Nat) : Bool := decide (g.1 < 2) || decide (g.2 < g.1)

theorem any_next {X : List (Nat × Nat)} {q : Int} {gp : Nat × Nat} (h0 : 0 ≤ q) (hN : Hid (∀ j, j < q.toNat → bad (X.getD j (0, 0)) = false)) (hg : Hid (X.getD q.toNat (0, 0) = gp)) (hb : bad gp = false) : Hid (∀ j, j < (q + 1).toNat → bad (X.getD j (0, 0)) = false) := by
  intro j hj
  by_cases h : j < q.toNat
  · exact hN.out j h
  · rw [show j = q.toNat by omega, hg.out, hb]
theorem any_yes {X : List (Nat × Nat)} {k : Nat} {gp : Nat × Nat} (h : k < X.length) (hg : Hid (X.getD k (0, 0) = gp)) (hb : bad gp = true) : true = X.any bad := by
  refine (List.any_eq_true.2 ⟨gp, ?_, hb⟩).symm
  rw [← hg.out, List.getD_eq_getElem?_getD, List.getElem?_eq_getElem h]
  exact List.getElem_mem h
theorem any_no {X : List (Nat × Nat)} {k : Nat} (h : X.length = k) (hN : Hid (∀ j, j < k → bad (X.getD j (0, 0)) = false)) : decide (0 ≤ (-1 : Int)) = X.any bad := by
  refine (List.any_eq_false.2 fun g hg => ?_).symm
  obtain ⟨j, hj, rfl⟩ := List.mem_iff_getElem.1 hg
  have := hN.out j (by omega)
  rw [List.getD_eq_getElem?_getD, List.getElem?_eq_getElem hj] at this
  simpa using this

/-- L holds what the blocks hold -/
def Uni (X : List (Nat × Nat)) (L : List Nat) : Prop := ∀ d, d ∈ L ↔ ∃ g ∈ X, g.1 ≤ d ∧ d ≤ g.2

theorem rfrom_many (w : World) (c : Nat) (a : Option Addr) (len cap : Nat) (hm : 4096 < len) :
    Calls Tryd.prog 15 #[.int .u32 (c : Int), .slice a len cap] w fun e w' => e = .returned (.tuple #[.pointer none, .int .i64 3]) ∧ w' = w := by
  go_enter Tryd.func15, Tryd.ntmps15
  go_wp2
  go_ret2
  exact ⟨rfl, rfl⟩

/-- the row of edges is new -/
def mkE (w : World) : World := w.alloc (.cells (madeCells #[.int .i64 0] 65537) 3)
theorem make_run (w : World) : (Instr.makeSlice 52 (.int .i64 65537) (.int .i64 65537)).run Tryd.prog w = .ok (.slice (some ⟨w.heap.size, 0, none⟩) 65537 65537) (mkE w) :=
  run_make_row' 52 3 (.int .i64 0) 8 Tryd.underlying52 info3 rfl .i64 .i64 65537 (by omega) (by omega) w
/-- a row of numbers that may be written -/
def Edg (W : World) (eb : Nat) (f : Nat → Int) : Prop := eb < W.heap.size ∧ ∀ k, k < 65537 → W.cell? ⟨eb, k, none⟩ = some (.int .i64 (f k)) ∧ W.frozen? ⟨eb, k, none⟩ = false
theorem Edg.cong {W : World} {eb : Nat} {f g : Nat → Int} (h : Edg W eb f) (e : ∀ k, f k = g k) : Edg W eb g := ⟨h.1, fun k hk => by rw [← e]; exact h.2 k hk⟩
theorem Edg.set {W : World} {eb : Nat} {f : Nat → Int} (h : Edg W eb f) (i : Nat) (hi : i < 65537) (v : Int) : Edg (W.setCell ⟨eb, i, none⟩ (.int .i64 v)) eb (fun k => if k = i then v else f k) := by
  refine ⟨by simpa [World.setCell] using h.1, fun k hk => ?_⟩
  by_cases e : k = i
  · subst e
    rw [World.frozen?_setCell, show ((fun j => if j = k then v else f j) k) = v from if_pos rfl]
    exact ⟨World.cell?_setCell_same _ _ _ (h.2 k hk).1, (h.2 k hk).2⟩
  · have hne : (⟨eb, i, none⟩ : Addr) ≠ ⟨eb, k, none⟩ := fun h => e (by cases h; rfl)
    rw [World.frozen?_setCell, show ((fun j => if j = i then v else f j) k) = f k from if_neg e, World.cell?_setCell_other _ _ _ _ hne]
    exact h.2 k hk
theorem Edg.below {W W' : World} {eb n : Nat} {f : Nat → Int} (h : Edg W eb f) (hB : Below n W W') (hn : eb < n) : Edg W' eb f := by
  have hb := hB.block eb hn
  refine ⟨Nat.lt_of_lt_of_le h.1 hB.size, fun k hk => ?_⟩
  have h1 : W'.cell? ⟨eb, k, none⟩ = W.cell? ⟨eb, k, none⟩ := by simp [World.cell?, hb]
  have h2 : W'.frozen? ⟨eb, k, none⟩ = W.frozen? ⟨eb, k, none⟩ := by simp [World.frozen?, hb]
  rw [h1, h2]
  exact h.2 k hk
theorem mkE_edg (w : World) : Edg (mkE w) w.heap.size (fun _ => 0) := by
  have hh : (mkE w).heap[w.heap.size]? = some (.cells (madeCells #[.int .i64 0] 65537) 3 (0, 0)) := heap_alloc_new w _
  refine ⟨(Array.getElem?_eq_some_iff.1 hh).1, fun k hk => ?_⟩
  have hk2 : (madeCells #[Value.int .i64 0] 65537)[k]? = some (.int .i64 0) := by
    unfold madeCells
    rw [Array.getElem?_map, Array.getElem?_range, if_pos hk]
    simp [Nat.mod_one]
  exact ⟨by simp [World.cell?, hh, hk2], by simp [World.frozen?, hh]⟩
theorem mkE_below (w : World) : Below w.heap.size w (mkE w) := (Below.refl _ w).alloc (Nat.le_refl _) _
/-- the same with no name for the new world: the walk can't open it -/
theorem make_any : ∃ mk : World → World, (∀ w : World, (Instr.makeSlice 52 (.int .i64 65537) (.int .i64 65537)).run Tryd.prog w = .ok (.slice (some ⟨w.heap.size, 0, none⟩) 65537 65537) (mk w)) ∧
    (∀ w : World, Edg (mk w) w.heap.size (fun _ => 0)) ∧ ∀ w : World, Below w.heap.size w (mk w) := ⟨mkE, make_run, mkE_edg, mkE_below⟩

/-- how many begin at a distance, less those that ended ahead of it -/
def ed : List (Nat × Nat) → Nat → Int
  | [], _ => 0
  | g :: Y, k => ed Y k + (if g.1 = k then 1 else 0) - (if g.2 + 1 = k then 1 else 0)
/-- how many hold a distance -/
def opn : List (Nat × Nat) → Nat → Int
  | [], _ => 0
  | g :: Y, k => opn Y k + (if g.1 ≤ k ∧ k ≤ g.2 then 1 else 0)
theorem ed_snoc (g : Nat × Nat) (k : Nat) : ∀ Y, ed (Y ++ [g]) k = ed Y k + (if g.1 = k then 1 else 0) - (if g.2 + 1 = k then 1 else 0)
  | [] => by simp [ed]
  | h :: Y => by
    have ih := ed_snoc g k Y
    show ed (Y ++ [g]) k + _ - _ = _
    rw [ih]
    show _ = ed Y k + _ - _ + _ - _
    omega
theorem ed_abs (k : Nat) : ∀ Y, -(Y.length : Int) ≤ ed Y k ∧ ed Y k ≤ (Y.length : Int)
  | [] => by simp [ed]
  | g :: Y => by
    have ih := ed_abs k Y
    show _ ≤ ed Y k + _ - _ ∧ ed Y k + _ - _ ≤ _
    simp only [List.length_cons]
    split <;> split <;> omega
theorem opn_abs (k : Nat) : ∀ Y, 0 ≤ opn Y k ∧ opn Y k ≤ (Y.length : Int)
  | [] => by simp [opn]
  | g :: Y => by
    have ih := opn_abs k Y
    show 0 ≤ opn Y k + _ ∧ opn Y k + _ ≤ _
    simp only [List.length_cons]
    split <;> omega
theorem opn_step (k : Nat) : ∀ Y, (∀ g ∈ Y, g.1 ≤ g.2) → opn Y (k + 1) = opn Y k + ed Y (k + 1)
  | [], _ => rfl
  | g :: Y, h => by
    have ih := opn_step k Y fun x hx => h x (List.mem_cons_of_mem _ hx)
    have hg := h g List.mem_cons_self
    show opn Y (k + 1) + _ = opn Y k + _ + (ed Y (k + 1) + _ - _)
    rw [ih]
    split <;> split <;> split <;> split <;> omega
theorem opn_pos (k : Nat) : ∀ Y, 0 < opn Y k ↔ ∃ g ∈ Y, g.1 ≤ k ∧ k ≤ g.2
  | [] => by simp [opn]
  | g :: Y => by
    have ih := opn_pos k Y
    have hb := opn_abs k Y
    show 0 < opn Y k + _ ↔ _
    rw [show (∃ x ∈ g :: Y, x.1 ≤ k ∧ k ≤ x.2) ↔ ((g.1 ≤ k ∧ k ≤ g.2) ∨ ∃ x ∈ Y, x.1 ≤ k ∧ k ≤ x.2) from by simp, ← ih]
    split
    · exact ⟨fun _ => .inl (by assumption), fun _ => by omega⟩
    · exact ⟨fun h => .inr (by omega), fun h => h.elim (fun h => absurd h (by assumption)) (fun h => by omega)⟩
theorem opn_one : ∀ Y, (∀ g ∈ Y, 2 ≤ g.1) → opn Y 1 = 0
  | [], _ => rfl
  | g :: Y, h => by
    have ih := opn_one Y fun x hx => h x (List.mem_cons_of_mem _ hx)
    have hg := h g List.mem_cons_self
    show opn Y 1 + _ = 0
    rw [ih, if_neg (by omega)]; rfl
theorem ed_next {W : World} {eb : Nat} {Y : List (Nat × Nat)} {x y : Nat} (h : Edg W eb (ed Y)) (hxy : x ≤ y) (hy : y < 65536) :
    Edg ((W.setCell ⟨eb, x, none⟩ (.int .i64 (ed Y x + 1))).setCell ⟨eb, y + 1, none⟩ (.int .i64 (ed Y (y + 1) - 1))) eb (ed (Y ++ [(x, y)])) := by
  refine ((h.set x (by omega) _).set (y + 1) (by omega) _).cong fun k => ?_
  rw [ed_snoc]
  simp only
  by_cases h1 : k = y + 1
  · subst h1; rw [if_pos rfl, if_pos rfl, if_neg (by omega)]; omega
  · rw [if_neg h1, if_neg (Ne.symm h1)]
    by_cases h2 : k = x
    · subst h2; rw [if_pos rfl, if_pos rfl]; omega
    · rw [if_neg h2, if_neg (Ne.symm h2)]; omega

/-- the distances from 2 on that some block holds -/
def lst (X : List (Nat × Nat)) (n : Nat) : List Nat := (List.range' 2 n).filter fun d => decide (0 < opn X d)
theorem lst_snoc (X : List (Nat × Nat)) (n : Nat) : lst X (n + 1) = if 0 < opn X (2 + n) then lst X n ++ [2 + n] else lst X n := by
  unfold lst
  rw [List.range'_1_concat, List.filter_append]
  by_cases h : 0 < opn X (2 + n)
  · rw [if_pos h]; simp [h]
  · rw [if_neg h]; simp [h]
theorem lst_len (X : List (Nat × Nat)) (n : Nat) : (lst X n).length ≤ n := by
  unfold lst
  exact Nat.le_trans (List.length_filter_le _ _) (by rw [List.length_range']; exact Nat.le_refl _)
theorem lst_good (X : List (Nat × Nat)) : Good 2 (lst X 65534) := by
  refine ⟨List.Pairwise.filter _ (List.pairwise_lt_range' ..), fun d hd => ?_⟩
  have := List.mem_range'_1.1 (List.mem_filter.1 hd).1
  omega
theorem lst_uni (X : List (Nat × Nat)) (h : ∀ g ∈ X, 2 ≤ g.1 ∧ g.1 ≤ g.2 ∧ g.2 < 65536) : Uni X (lst X 65534) := by
  intro d
  unfold lst
  rw [List.mem_filter, decide_eq_true_iff, opn_pos, List.mem_range'_1]
  exact ⟨fun hh => hh.2, fun ⟨g, h1, h2⟩ => ⟨by have := h g h1; omega, g, h1, h2⟩⟩

theorem rnew0 (c : Nat) (w : World) :
    Calls Tryd.prog 36 #[.int .u32 (c : Int)] w fun e w' => e = .returned (.pointer (some ⟨w.heap.size, 0, none⟩)) ∧ w'.heap[w.heap.size]? = some (.cells #[.int .u32 (c : Int), .slice none 0 0] 54 (0, 0)) ∧ Below w.heap.size w w' := by
  go_enter Tryd.func36, Tryd.ntmps36
  go_wp2
  go_ret
  exact ⟨rfl, heap_alloc_new w _, (Below.refl _ w).alloc (Nat.le_refl _) _⟩

/-- what the document's From answers -/
def RF (w : World) (c : Nat) (X : List (Nat × Nat)) (e : Ending) (w' : World) : Prop :=
  Below w.heap.size w w' ∧ ((X.any bad = true ∧ e = .returned (.tuple #[.pointer none, .int .i64 30])) ∨
      (X.any bad = false ∧ ∃ b L, e = .returned (.tuple #[.pointer (some ⟨b, 0, none⟩), .int .i64 0]) ∧ w.heap.size ≤ b ∧ IsRef w' b c L ∧ Uni X L))

set_option maxRecDepth 20000 in
theorem rfrom (w : World) (c : Nat) (hc : c < 4294967296) (a : Option Addr) (len cap : Nat) (X : List (Nat × Nat)) (hG : RowG w a len X) (hm : len ≤ 4096) :
    Calls Tryd.prog 15 #[.int .u32 (c : Int), .slice a len cap] w (RF w c X) := by
  obtain ⟨hX, hbd, hlim, hor⟩ := hG
  have HOR : Hid _ := hor
  clear hor
  have HBD : Hid _ := hbd
  clear hbd
  obtain ⟨i0, hi, hz0, hz1, hz2⟩ := info_parts info3
  obtain ⟨mk, hmk, hmkE, hmkB⟩ := make_any
  have HE0 : Hid (Edg (mk w) w.heap.size (fun _ => 0)) := hmkE w
  have HB0 : Hid (Below w.heap.size w (mk w)) := hmkB w
  clear hmkE hmkB
  go_enter Tryd.func15, Tryd.ntmps15
  go_wp2_with fail
  rw [show decide ((4096 : Int) < (len : Int)) = false from decide_eq_false (by omega)]
  have hB0 := HB0.out
  have hE0 := HE0.out
  clear hmk HB0 HE0
  generalize mk w = wm at hB0 hE0 ⊢
  have heq : Hid (w.heap.size = w.heap.size) := rfl
  generalize hwb : w.heap.size = eb at hB0 hE0 ⊢
  go_loopw [7] (fun i wr => ∃ q : Int, 0 ≤ q ∧ q ≤ (len : Int) ∧ i = .int .i64 q ∧ Hid (Edg wr eb (ed (X.take q.toNat))) ∧ Hid (∀ j, j < q.toNat → bad (X.getD j (0, 0)) = false) ∧ Below eb w wr) (fun i wr => len - (intOf i).toNat)
  case atStart => exact ⟨0, by omega, by omega, rfl, hE0, (fun j hj => by simp at hj), hB0⟩
  case round =>
    obtain ⟨q, hq0, hq, rfl, hE, hN, hB⟩ := hrel
    by_cases hlt : q < (len : Int)
    · obtain ⟨b, off, rfl, hb, hcl⟩ := HOR.out.resolve_left (by omega)
      have k0 := (hB.cell (p := ⟨b, off + q.toNat * 2, none⟩) (by rw [← hwb]; exact hb)).trans (hcl q.toNat (by omega)).1
      have k1 := (hB.cell (p := ⟨b, off + q.toNat * 2 + 1, none⟩) (by rw [← hwb]; exact hb)).trans (hcl q.toNat (by omega)).2
      clear hcl
      have hXk : X[q.toNat]? = some (X.getD q.toNat (0, 0)) := by
        rw [List.getD_eq_getElem?_getD, List.getElem?_eq_getElem (by omega)]; rfl
      obtain ⟨gp, hgp⟩ : ∃ gp, X.getD q.toNat (0, 0) = gp := ⟨_, rfl⟩
      rw [hgp] at k0 k1 hXk
      have HG : Hid _ := hgp
      clear hgp
      have hgm := List.mem_of_getElem? hXk
      have hbd := HBD.out gp hgm
      have HXk : Hid _ := hXk
      clear hXk hgm
      obtain ⟨x, y⟩ := gp
      obtain ⟨hx6, hy6⟩ := hbd
      simp only at k0 k1 hx6 hy6
      by_cases hx2 : x < 2
      · have hd1 : decide ((x : Int) < 2) = true := decide_eq_true (by omega)
        go_wp2_with fail
        go_quiet (fail)
        go_wp2
        go_ret2
        exact ⟨hwb ▸ ⟨hB.os, hB.tape, hB.output, hB.size, hB.block⟩, .inl ⟨(any_yes (k := q.toNat) (by omega) HG (by simp [bad, hx2])).symm, rfl⟩⟩
      · have hd1 : decide ((x : Int) < 2) = false := decide_eq_false (by omega)
        by_cases hyx : y < x
        · have hd2 : decide (y < x) = true := decide_eq_true (by omega)
          go_wp2_with fail
          go_quiet (fail)
          go_wp2
          go_ret2
          exact ⟨hwb ▸ ⟨hB.os, hB.tape, hB.output, hB.size, hB.block⟩, .inl ⟨(any_yes (k := q.toNat) (by omega) HG (by simp [bad, hyx])).symm, rfl⟩⟩
        · have hd2 : decide (y < x) = false := decide_eq_false (by omega)
          have hnx : Hid (X.take (q + 1).toNat = X.take q.toNat ++ [(x, y)]) := by
            unfold Hid; rw [show (q + 1).toNat = q.toNat + 1 by omega, List.take_add_one, HXk.out]; rfl
          have hN' : Hid _ := any_next hq0 hN HG (by simp [bad]; omega)
          go_wp2_with fail
          go_quiet (fail)
          obtain ⟨y1, hy1, k0', k1', hB1, hE1⟩ : ∃ y1, wr.drewN nq = y1 ∧ y1.cell? ⟨b, off + q.toNat * 2, none⟩ = some (.int .u16 (x : Int)) ∧ y1.cell? ⟨b, off + q.toNat * 2 + 1, none⟩ = some (.int .u16 (y : Int)) ∧ Hid (Below eb w y1) ∧ Hid (Edg y1 eb (ed (X.take q.toNat))) := ⟨_, rfl, k0, k1, ⟨hB.os, hB.tape, hB.output, hB.size, hB.block⟩, hE.out⟩
          rw [hy1]
          clear hy1 k0 k1
          go_wp2_with fail
          go_quiet (fail)
          obtain ⟨y2, hy2, hB2, hE2⟩ : ∃ y2, y1.drewN nq = y2 ∧ Hid (Below eb w y2) ∧ Hid (Edg y2 eb (ed (X.take q.toNat))) := ⟨_, rfl, ⟨hB1.out.os, hB1.out.tape, hB1.out.output, hB1.out.size, hB1.out.block⟩, hE1.out⟩
          rw [hy2]
          clear hy2 k0' k1'
          obtain ⟨c1, f1⟩ := hE2.out.2 x (by omega)
          obtain ⟨c2, f2⟩ := hE2.out.2 (y + 1) (by omega)
          have b1 := ed_abs x (X.take q.toNat)
          have b2 := ed_abs (y + 1) (X.take q.toNat)
          have bl : (X.take q.toNat).length ≤ 4096 := by rw [List.length_take]; omega
          obtain ⟨E1, hE1'⟩ : ∃ E1 : Int, Hid (ed (X.take q.toNat) x = E1) := ⟨_, rfl⟩
          obtain ⟨E2, hE2'⟩ : ∃ E2 : Int, Hid (ed (X.take q.toNat) (y + 1) = E2) := ⟨_, rfl⟩
          rw [hE1'.out] at c1 b1
          rw [hE2'.out] at c2 b2
          have hi1 : -4096 ≤ E1 ∧ E1 ≤ 4096 := by omega
          have hi2 : -4096 ≤ E2 ∧ E2 ≤ 4096 := by omega
          have hne : (⟨eb, x, none⟩ : Addr) ≠ ⟨eb, y + 1, none⟩ := fun h => by cases h; omega
          have c3 : (y2.setCell ⟨eb, x, none⟩ (.int .i64 (E1 + 1))).cell? ⟨eb, y + 1, none⟩ = some (.int .i64 E2) := (World.cell?_setCell_other _ _ _ _ hne).trans c2
          have f3 : (y2.setCell ⟨eb, x, none⟩ (.int .i64 (E1 + 1))).frozen? ⟨eb, y + 1, none⟩ = false := (World.frozen?_setCell _ _ _ _).trans f2
          have hE3 : Hid (Edg ((y2.setCell ⟨eb, x, none⟩ (.int .i64 (E1 + 1))).setCell ⟨eb, y + 1, none⟩ (.int .i64 (E2 - 1))) eb (ed (X.take (q + 1).toNat))) := by
            unfold Hid
            rw [hnx.out, ← hE1'.out, ← hE2'.out]
            exact ed_next hE2.out (by omega) (by omega)
          clear b1 b2 bl hnx hE hE1 hE2 hB hB1
          have htn : ((y : Int) + 1).toNat = y + 1 := by omega
          go_wp2
          go_roundw
          case rel => exact ⟨q + 1, by omega, by omega, rfl, hE3, hN', (hB2.out.setCell (p := ⟨eb, x, none⟩) (Nat.le_refl _) _).setCell (p := ⟨eb, y + 1, none⟩) (Nat.le_refl _) _⟩
          case measure => simp only [intOf]; omega
    · have hqe : Hid (q.toNat = len) := by unfold Hid; omega
      have hnb : X.any bad = false := (any_no (hX.trans hqe.out.symm) hN).symm
      rw [hqe.out, List.take_of_length_le (by omega)] at hE
      have HNB : Hid _ := hnb
      clear hnb hN
      go_wp2_with fail
      refine (rnew0 c wr).mono ?_
      rintro e wb ⟨rfl, hbk, hBb⟩
      have hEb : Hid (Edg wb eb (ed X)) := hE.out.below hBb hE.out.1
      have hebl := hE.out.1
      generalize hbs : wr.heap.size = b at hbk hBb hebl
      go_wp2_with fail
      have hbl : b < wb.heap.size := (Array.getElem?_eq_some_iff.1 hbk).1
      have hbe : eb < b := hebl
      have hgX : Hid (∀ g ∈ X, 2 ≤ g.1 ∧ g.1 ≤ g.2 ∧ g.2 < 65536) := fun g hg => by
        have h1 := List.any_eq_false.1 HNB.out g hg
        have h2 := HBD.out g hg
        simp [bad] at h1
        omega
      go_loopw [11, 12] (fun o kk wr => ∃ (k O : Int) (v : Value), 2 ≤ k ∧ k ≤ 65536 ∧ 0 ≤ O ∧ O ≤ 4096 ∧ o = .int .i64 O ∧ kk = .int .i64 k ∧ Hid (opn X (k.toNat - 1) = O) ∧ wr.heap[b]? = some (.cells #[.int .u32 (c : Int), v] 54 (0, 0)) ∧ wr.ownsRow wb.heap.size 3 1 v (lst X (k.toNat - 2)).length ((lst X (k.toNat - 2)).map intV) ∧ wb.grownBy wr (some b)) (fun o kk wr => 65536 - (intOf kk).toNat)
      case atStart => exact ⟨2, 0, _, by omega, by omega, by omega, by omega, rfl, rfl, opn_one X (fun g hg => (hgX.out g hg).1), hbk, World.ownsRow_nil _ _ _ _, World.grownBy.refl _ _⟩
      case round =>
        obtain ⟨k, O, v, hk2, hk6, hO0, hO1, rfl, rfl, hO, hbr, hor, hgr⟩ := hrel
        by_cases hlt2 : k ≤ 65535
        · have hst := opn_step (k.toNat - 1) X (fun g hg => (hgX.out g hg).2.1)
          rw [show k.toNat - 1 + 1 = k.toNat by omega, hO.out] at hst
          have hob := opn_abs k.toNat X
          have heb := ed_abs k.toNat X
          have e1 := hgr.cell (hEb.out.2 k.toNat (by omega)).1 (by simp; omega)
          obtain ⟨E, hE9⟩ : ∃ E : Int, Hid (ed X k.toNat = E) := ⟨_, rfl⟩
          rw [hE9.out] at e1 hst heb
          have hE4 : -4096 ≤ E ∧ E ≤ 4096 := by omega
          have hOE : 0 ≤ O + E ∧ O + E ≤ 4096 := by omega
          have hOn : Hid (opn X ((k + 1).toNat - 1) = O + E) := by unfold Hid; rw [show (k + 1).toNat - 1 = k.toNat by omega]; exact hst
          have hsn := lst_snoc X (k.toNat - 2)
          rw [show 2 + (k.toNat - 2) = k.toNat by omega, hst] at hsn
          have hll : (lst X (k.toNat - 2)).length ≤ 65536 := Nat.le_trans (lst_len X _) (by omega)
          clear hob heb hst
          have hbl2 : b < wr.heap.size := (Array.getElem?_eq_some_iff.1 hbr).1
          have hszg := hgr.size
          by_cases hpos : 0 < O + E
          · rw [if_pos hpos] at hsn
            have hnx : Hid (lst X ((k + 1).toNat - 2) = lst X (k.toNat - 2) ++ [k.toNat]) := by unfold Hid; rw [show (k + 1).toNat - 2 = k.toNat - 2 + 1 by omega]; exact hsn
            clear hsn
            generalize lst X (k.toNat - 2) = LL at hor hnx hll
            obtain ⟨va, vc, rfl⟩ := row_len hor
            have hnb : some b ≠ (Value.slice va LL.length vc).ownBlock := fun e => by have := (hor.lt b e.symm).1; omega
            have k1 : wr.cell? ⟨b, 1, none⟩ = some (.slice va LL.length vc) := by simp [World.cell?, hbr]
            have HBR : Hid _ := hbr
            clear hbr
            go_wp2_with (at_builtin; refine wpList_append_own _ rfl _ _ 52 rfl wb.heap.size 3 i0 (.int .i64 0) 1 8 Tryd.underlying52 hi hz0 hz1 hz2 rfl (by decide) _ _ _ rfl (hor.alloc _) ⟨wr.heap.size, 0, none⟩ 1 1 [.int .i64 k] rfl rfl (cell_one_new _ _ _) (by simp [Value.oneCell']) ?d3 ?d4 (by simp; omega) ?_)
            case d3 => unfold maxLen; omega
            case d4 => omega
            intro v' w2 ho2 hg2 _
            have hbw : w2.heap[b]? = some (.cells #[.int .u32 (c : Int), .slice va LL.length vc] 54 (0, 0)) := (hg2.block b (by simp; omega) hnb).trans ((Below.heap_alloc wr _ b hbl2).trans HBR.out)
            have kw : w2.cell? ⟨b, 1, none⟩ = some (.slice va LL.length vc) := by simp [World.cell?, hbw]
            have fw : w2.frozen? ⟨b, 1, none⟩ = false := by simp [World.frozen?, hbw]
            obtain ⟨va2, vc2, rfl⟩ := row_len ho2
            have HBW : Hid _ := hbw
            have HO2 : Hid _ := ho2
            have HG2 : Hid _ := hg2
            clear hbw ho2 hg2 k1
            go_wp2
            go_roundw
            case rel =>
              refine ⟨k + 1, O + E, _, by omega, by omega, by omega, by omega, rfl, rfl, hOn, by rw [heap_set w2 b 1 _ HBW.out]; rfl, ?_, ?_⟩
              · have hgb : (Value.slice va2 (LL.length + 1) vc2).ownBlock ≠ some b := fun e => by have := (World.ownsRow.lt HO2.out b e).1; omega
                rw [hnx.out, List.length_append, List.map_append, show ([k.toNat].map intV) = [.int .i64 k] by unfold intV; simp; omega]
                exact ownsRow_setCell_other (a := ⟨b, 1, none⟩) HO2.out (fun e => hgb (by simpa using e)) _
              · exact grownBy_set (a := ⟨b, 1, none⟩) (hgr.andThen ((World.grownBy_alloc wr _ _).trans HG2.out) (fun j hj => .inl (hor.lt j hj).1)) rfl _
            case measure => simp only [intOf]; omega
          · rw [if_neg hpos] at hsn
            have hnx : Hid (lst X ((k + 1).toNat - 2) = lst X (k.toNat - 2)) := by unfold Hid; rw [show (k + 1).toNat - 2 = k.toNat - 2 + 1 by omega]; exact hsn
            clear hsn
            have HBR : Hid _ := hbr
            have HOR2 : Hid _ := hor
            clear hbr hor
            go_wp2
            go_roundw
            case rel => exact ⟨k + 1, O + E, v, by omega, by omega, by omega, by omega, rfl, rfl, hOn, HBR.out, by rw [hnx.out]; exact HOR2.out, hgr⟩
            case measure => simp only [intOf]; omega
        · have hke : Hid (k.toNat - 2 = 65534) := by unfold Hid; omega
          rw [hke.out] at hor
          have HBR : Hid _ := hbr
          have HOR2 : Hid _ := hor
          clear hbr hor
          go_wp2
          go_ret2
          have HOZ : wr.ownsRow wb.heap.size 3 1 v (lst X 65534).length ((lst X 65534).map intV) := HOR2.out
          refine ⟨?_, .inr ⟨HNB.out, b, lst X 65534, rfl, by rw [hwb]; omega, ⟨hc, lst_good X, v, HBR.out, own_zero HOZ⟩, lst_uni X hgX.out⟩⟩
          rw [hwb]
          exact (hB.trans (hBb.mono (by omega))).trans (grownS.below hgr (by omega) (by omega))
end Go.Proofs.YtdifceikfnnfeaaDoor.Sp
