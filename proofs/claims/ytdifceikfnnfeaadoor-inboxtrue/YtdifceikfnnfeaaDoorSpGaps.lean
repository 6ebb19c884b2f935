/-
  What Gaps and Missing answer.
  Conditions: the set hands out its blocks (it was made by the package, or has no marks, or is nil).
-/
import Derived.Test.YtdifceikfnnfeaaDoorSpAll2
namespace Go.Proofs.YtdifceikfnnfeaaDoor.Sp
open Go.RowKit Go.Shelf
set_option linter.unusedVariables false
attribute [local go_sem] Oper.semAt_some

theorem info76 : (Tryd.prog.info? 74).map (fun i => (i.zero, i.size, i.bytes)) = some (some (.agg #[.int .u16 0, .int .u16 0]), 2, 4) := by kernel_rfl
/-- a block's cells -/
def gapC (g : Nat × Nat) : List Value := [.int .u16 (g.1 : Int), .int .u16 (g.2 : Int)]
theorem gapC_len (bs : List (Nat × Nat)) : (bs.flatMap gapC).length = bs.length * 2 := by
  induction bs with
  | nil => rfl
  | cons g r ih => rw [List.flatMap_cons, List.length_append, ih, List.length_cons]; simp [gapC]; omega
theorem gapC_snoc {bs : List (Nat × Nat)} {k : Nat} {g : Nat × Nat} (h : bs[k]? = some g) : (bs.take (k + 1)).flatMap gapC = (bs.take k).flatMap gapC ++ gapC g := by
  rw [List.take_add_one, h]; simp [List.flatMap_append]

theorem row_len {w : World} {base e size n : Nat} {v : Value} {xs : List Value} (h : w.ownsRow base e size v n xs) : ∃ a cap, v = .slice a n cap := by
  rcases h.2 with ⟨rfl, rfl⟩ | ⟨g, cap, cur, rfl, _⟩ <;> exact ⟨_, _, rfl⟩
theorem cells_new2 (w : World) (u v : Value) (t : TypeId) : ∀ j x, [u, v][j]? = some x → (w.alloc (.cells #[u, v] t)).cell? ((⟨w.heap.size, 0, none⟩ : Addr).add j) = some x := by
  intro j x hj
  have h : (w.alloc (.cells #[u, v] t)).heap[w.heap.size]? = some (.cells #[u, v] t) := World.alloc_heap_new w _
  match j, hj with
  | 0, hj => cases hj; show (w.alloc (.cells #[u, v] t)).cell? ⟨w.heap.size, 0, none⟩ = _; simp only [World.cell?, h]; rfl
  | 1, hj => cases hj; show (w.alloc (.cells #[u, v] t)).cell? ⟨w.heap.size, 1, none⟩ = _; simp only [World.cell?, h]; rfl

set_option maxHeartbeats 400000 in
theorem gaps_in (w : World) (p : Option Addr) (c : Nat) (bs : List (Nat × Nat)) (h : Behind w p c bs) (most : Int) :
    CallsIn Fence.wide 10 Tryd.prog 63 #[.pointer p, .int .i64 most] w fun e w' => ∃ v, e = .returned v ∧ w'.ownsRow w.heap.size 74 2 v (bs.take most.toNat).length ((bs.take most.toNat).flatMap gapC) ∧ Below w.heap.size w w' := by
  obtain ⟨hH, hbs, hat⟩ := h
  obtain ⟨i0, hi, hz0, hz1, hz2⟩ := info_parts info76
  refine callsIn_of_wp_marks Tryd.func63 rfl trivial ?_ rfl
  simp only [Tryd.ntmps63, List.size_toArray, List.length_cons, List.length_nil, Nat.reduceAdd, Nat.reduceSub, Array.replicate_succ, Array.replicate_zero, List.push_toArray, List.append_toArray, List.nil_append, List.cons_append]
  gi_wp2
  obtain ⟨W0, hW0⟩ : ∃ W0, (w.alloc (Obj.cells #[Value.int .i64 most] 3)).alloc (Obj.cells #[Value.slice none 0 0] 42) = W0 := ⟨_, rfl⟩
  have hB0 : Below w.heap.size w W0 := by rw [← hW0]; exact ((Below.refl _ w).alloc (Nat.le_refl _) _).alloc (by simp) _
  have hsz : W0.heap.size = w.heap.size + 2 := by rw [← hW0]; simp
  have hx1 : Boxed W0 w.heap.size 3 (.int .i64 most) := by rw [← hW0]; exact (Boxed.new w 3 _).alloc _
  have hx2 : Boxed W0 (w.heap.size + 1) 42 (.slice none 0 0) := by rw [← hW0]; have := Boxed.new (w.alloc (Obj.cells #[Value.int .i64 most] 3)) 42 (.slice none 0 0); rwa [World.size_alloc] at this
  rw [hW0]
  clear hW0
  generalize hb0 : w.heap.size = n₀ at *
  have HB0 : Hid (w.heap.size = n₀) := hb0
  clear hb0
  refine range_blocks (n₀ := n₀) (bs := bs) (p := p) rfl (hH.later hB0) (by omega)
    (fun k W => ∃ v, Boxed W n₀ 3 (.int .i64 most) ∧ Boxed W (n₀ + 1) 42 v ∧ W.ownsRow n₀ 74 2 v k ((bs.take k).flatMap gapC) ∧ Below n₀ w W ∧ ((k : Int) ≤ most ∨ k = 0))
    (fun id W => id = 0 ∧ ∃ v, Boxed W (n₀ + 1) 42 v ∧ W.ownsRow n₀ 74 2 v (bs.take most.toNat).length ((bs.take most.toNat).flatMap gapC) ∧ Below n₀ w W)
    (fun k W W' ⟨v, h1, h2, h3, h4, h5⟩ hc => ⟨v, boxed_calm h1 hc, boxed_calm h2 hc, row_calm h3 hc, hc.below (by omega) h4 (by have := HB0.out; omega), h5⟩)
    (fun k W W' ⟨h0, v, h2, h3, h4⟩ hc => ⟨h0, v, boxed_calm h2 hc, row_calm h3 hc, hc.below (by omega) h4 (by have := HB0.out; omega)⟩)
    ⟨_, hx1, hx2, World.ownsRow_nil _ _ _ _, hB0, .inr rfl⟩
    (fun k a' W => ∃ Bx gp, bs[k]? = some gp ∧ GapBox W Bx gp ∧ a' = { tmps := #[Value.pointer p, Value.int IntKind.i64 most, undef, Value.pointer (some { block := n₀, off := 0 }), Value.slice none 0 0, Value.pointer (some { block := n₀ + 1, off := 0 }), .pointer (some ⟨Bx, 0, none⟩), Value.pointer p, Value.func (Fn.func 65) #[Value.pointer p] #[], gapV gp, undef, undef, undef, undef, undef, undef, undef, undef, undef], defers := [] })
    (fun k a' W W' ⟨Bx, gp, h0, h1, h2⟩ hc => ⟨Bx, gp, h0, h1.calm hc, h2⟩)
    ?assign ?body ?done ?stop
  case assign =>
    intro l k gp W K hk hi hK
    obtain ⟨v, h1, h2, h3, h4, h5⟩ := hi
    unfold gapV
    gi_wp2
    have hsW := h4.size
    rw [HB0.out] at hsW
    exact hK _ _ (keeps_new _ _ _) ((Below.refl _ W).alloc hsW _) ⟨v, h1.alloc _, h2.alloc _, h3.alloc _, h4.alloc hsW _, h5⟩ ⟨_, gp, hk, GapBox.new W gp, rfl⟩
  case body =>
    rintro l k gp a' W hk ⟨v, h1, h2, h3, h4, h5⟩ ⟨Bx, gp', hk', hgb, rfl⟩
    rw [hk] at hk'; cases hk'
    have hkl : k < bs.length := (List.getElem?_eq_some_iff.1 hk).1
    have hb1 := hbs.1
    obtain ⟨va, vc, rfl⟩ := row_len h3
    have c1 := h1.cell
    have c2 := h2.cell
    have f2 := h2.frozen
    have c3 := hgb.start
    have c4 := hgb.stop
    have hsW := h4.size
    rw [HB0.out] at hsW
    have HE : Hid _ := gapC_snoc hk
    by_cases hm : most ≤ (k : Int)
    · gi_wp2
      have e1 : (bs.take most.toNat).length = k ∧ bs.take most.toNat = bs.take k := by
        have : most.toNat = k := by omega
        rw [this, List.length_take]; exact ⟨by omega, rfl⟩
      refine ⟨KeepsFrom.refl _ _, rfl, _, h2, ?_, h4⟩
      rw [e1.1, e1.2]; exact h3
    · have hm' : (k : Int) < most := by omega
      gi_wp2_with (gi_at_builtin; refine wpListIn_append_own _ rfl _ _ 42 rfl n₀ 74 i0 (.agg #[.int .u16 0, .int .u16 0]) 2 4 Tryd.underlying42 hi hz0 hz1 hz2 rfl (by decide) _ _ _ rfl (h3.alloc _) ⟨W.heap.size, 0, none⟩ 1 1 [.int .u16 (gp.1 : Int), .int .u16 (gp.2 : Int)] rfl rfl (cells_new2 _ _ _ _) (by simp [Value.oneCell']) ?c3 ?c4 (by simp; omega) ?_)
      case c3 => unfold maxLen; omega
      case c4 => omega
      intro v' W2 ho hgr _
      have hfr : Fr n₀ 74 W W2 := (Fr.alloc W hsW _).trans (Fr.grown (h3.alloc _) (by simp; omega) hgr)
      obtain ⟨va', vc', rfl⟩ := row_len ho
      have d1 := hfr.boxed (by decide) h1
      have d2 := hfr.boxed (by decide) h2
      have c22 := d2.cell
      have f22 := d2.frozen
      clear c1 c2 f2 c3 c4
      have HO : Hid _ := ho
      clear ho hgr h3 h2 h1
      gi_wp2
      have ho := HO.out
      refine ⟨(hfr.keeps _).trans ((KeepsOthers.setCell _ _ _).from _), hfr.below.trans ((Below.refl _ _).setCell (p := ⟨n₀ + 1, 0, none⟩) (by simp) _), _, d1.other (by omega) _, d2.set _, ?_, (h4.trans hfr.below).setCell (p := ⟨n₀ + 1, 0, none⟩) (by simp) _, .inl (by omega)⟩
      rw [HE.out]
      refine ownsRow_setCell_other ho (fun hh => ?_) _
      exact d2.not_row (by decide) ho hh.symm
  case done =>
    rintro D W hD ⟨v, h1, h2, h3, h4, h5⟩ hdef
    have c2 := h2.cell
    gi_wp2
    refine ⟨by simp, .inl ⟨_, _, rfl, run_takeDeferred hdef, ?_⟩⟩
    have e1 : bs.take most.toNat = bs := List.take_of_length_le (by omega)
    rw [List.take_length] at h3
    have hbb := belowK_b (n₀ := n₀) (w := W0) (by omega) W D _ (.deferred none) hD hdef rfl rfl
    refine ⟨_, results_tmp rfl _ _ _, _, rfl, ?_, ?_⟩
    · rw [HB0.out, e1]; exact ownsRow_putObj h3 _ hdef rfl
    · rw [HB0.out]; exact h4.trans hbb
  case stop =>
    rintro D id W hD ⟨rfl, v, h2, h3, h4⟩ hdef
    have c2 := h2.cell
    gi_wp2
    refine ⟨by simp, .inl ⟨_, _, rfl, run_takeDeferred hdef, ?_⟩⟩
    have hbb := belowK_b (n₀ := n₀) (w := W0) (by omega) W D _ (.deferred none) hD hdef rfl rfl
    refine ⟨_, results_tmp rfl _ _ _, _, rfl, ?_, ?_⟩
    · rw [HB0.out]; exact ownsRow_putObj h3 _ hdef rfl
    · rw [HB0.out]; exact h4.trans hbb
theorem gaps_ (w : World) (p : Option Addr) (c : Nat) (bs : List (Nat × Nat)) (h : Behind w p c bs) (most : Int) :
    Calls Tryd.prog 63 #[.pointer p, .int .i64 most] w fun e w' => ∃ v, e = .returned v ∧ w'.ownsRow w.heap.size 74 2 v (bs.take most.toNat).length ((bs.take most.toNat).flatMap gapC) ∧ Below w.heap.size w w' := callsIn_wide.1 (gaps_in w p c bs h most)

/-- the numbers between blocks -/
def miss : Nat → List (Nat × Nat) → List Nat
  | _, [] => []
  | b, g :: r => List.range' b (g.1 - b) ++ miss (g.2 + 1) r
theorem last_le {bs : List (Nat × Nat)} (h : Blocks bs) (k : Nat) : lastOf (bs.take k) ≤ 65535 := by
  unfold lastOf
  cases hl : (bs.take k).getLast? with
  | none => simp
  | some g => have := h.2 g (List.mem_of_mem_take (List.mem_of_getLast? hl)); simp; omega
theorem Fr.gapStop {base Bx : Nat} {W W' : World} {gp : Nat × Nat} (h : Fr base 22 W W') (hg : GapBox W Bx gp) (B : Nat) {t : TypeId} {v : Value} (hB : Boxed W' B t v) (u : Value) : (W'.setCell ⟨B, 0, none⟩ u).cell? ⟨Bx, 1, none⟩ = some (.int .u16 (gp.2 : Int)) := by
  have h1 : GapBox W' Bx gp := h.other Bx _ hg (fun cur f hh => by cases hh)
  by_cases e : Bx = B
  · subst e
    have := h1.symm.trans hB
    simp at this
  · have h2 : GapBox (W'.setCell ⟨B, 0, none⟩ u) Bx gp := (Below.heap_setCell W' ⟨B, 0, none⟩ u Bx e).trans h1
    exact h2.stop
theorem miss_snoc (g : Nat × Nat) : ∀ (l : List (Nat × Nat)) (b : Nat), miss b (l ++ [g]) = miss b l ++ List.range' (((l.getLast?.map (·.2 + 1)).getD b)) (g.1 - ((l.getLast?.map (·.2 + 1)).getD b))
  | [], b => by simp [miss]
  | x :: r, b => by
    rw [List.cons_append, miss, miss_snoc g r (x.2 + 1), miss, List.append_assoc]
    congr 2
    all_goals (cases r <;> simp [List.getLast?_cons])
theorem miss_take {bs : List (Nat × Nat)} {k : Nat} {g : Nat × Nat} (h : bs[k]? = some g) : miss 1 (bs.take (k + 1)) = miss 1 (bs.take k) ++ List.range' (lastOf (bs.take k) + 1) (g.1 - (lastOf (bs.take k) + 1)) := by
  rw [List.take_add_one, h]
  simp only [Option.toList, miss_snoc]
  have : ((bs.take k).getLast?.map (·.2 + 1)).getD 1 = lastOf (bs.take k) + 1 := by unfold lastOf; cases (bs.take k).getLast? <;> rfl
  rw [this]
theorem miss_append : ∀ (l r : List (Nat × Nat)) (b : Nat), ∃ t, miss b (l ++ r) = miss b l ++ t
  | [], r, b => ⟨_, rfl⟩
  | x :: l, r, b => by obtain ⟨t, ht⟩ := miss_append l r (x.2 + 1); exact ⟨t, by rw [List.cons_append, miss, ht, miss, List.append_assoc]⟩
theorem miss_pre (bs : List (Nat × Nat)) (k : Nat) : ∃ t, miss 1 bs = miss 1 (bs.take k) ++ t := by
  obtain ⟨t, ht⟩ := miss_append (bs.take k) (bs.drop k) 1
  exact ⟨t, by rw [← ht, List.take_append_drop]⟩
theorem take_range : ∀ (n s m : Nat), (List.range' s n).take m = List.range' s (min n m)
  | 0, s, m => by simp
  | n + 1, s, 0 => by simp
  | n + 1, s, m + 1 => by rw [List.range'_succ, List.take_succ_cons, take_range n (s + 1) m, Nat.add_min_add_right, List.range'_succ]
/-- one block more: what is appended -/
theorem miss_step {bs : List (Nat × Nat)} {k m : Nat} {g : Nat × Nat} (h : bs[k]? = some g) (hlt : ((miss 1 (bs.take k)).take m).length < m) :
    (miss 1 (bs.take (k + 1))).take m = (miss 1 (bs.take k)).take m ++ List.range' (lastOf (bs.take k) + 1) (min (g.1 - (lastOf (bs.take k) + 1)) (m - ((miss 1 (bs.take k)).take m).length)) := by
  have h1 : (miss 1 (bs.take k)).take m = miss 1 (bs.take k) := List.take_of_length_le (by rw [List.length_take] at hlt; omega)
  rw [h1] at hlt ⊢
  rw [miss_take h, List.take_append, List.take_of_length_le (by omega), take_range]

end Go.Proofs.YtdifceikfnnfeaaDoor.Sp
