/-
  The reader of package chunk: lists of gaps and of numbers, counts.
  Conditions: the numbers lie within their kinds, the cells hold them; the bytes lie in the memory of an older world, which the reader does not touch.
-/
import Derived.Test.YtifdkpifambhaaaChK
namespace Go.Proofs.Ytifdkpifambhaaa.Chu
open Go.ChangeShapes Go.WideShapes Go.ChangeAt Go.RowKit
open Par (hidden Bytes Row Prm Prms cell_lt Cap cells_new cutA thrown form_of)
set_option linter.unusedVariables false

theorem infoG : (Try.prog.info? 69).map (fun i => (i.zero, i.size, i.bytes)) = some (some (.agg #[.int .u16 0, .int .u16 0]), 2, 4) := by kernel_rfl
theorem info32 : (Try.prog.info? 31).map (fun i => (i.zero, i.size, i.bytes)) = some (some (.int .u32 0), 1, 4) := by kernel_rfl
/-- gaps and numbers that stand at a place -/
def gapsAt (v : List Int) (p n : Nat) : List (Int × Int) := (List.range n).map fun i => (n2 v (p + 4 * i), n2 v (p + 4 * i + 2))
def foursAt (v : List Int) (p n : Nat) : List Int := (List.range n).map fun i => n4 v (p + 4 * i)
theorem gapsAt_succ (v : List Int) (p n : Nat) : gapsAt v p (n + 1) = gapsAt v p n ++ [(n2 v (p + 4 * n), n2 v (p + 4 * n + 2))] := by unfold gapsAt; rw [List.range_succ, List.map_append]; rfl
theorem foursAt_succ (v : List Int) (p n : Nat) : foursAt v p (n + 1) = foursAt v p n ++ [n4 v (p + 4 * n)] := by unfold foursAt; rw [List.range_succ, List.map_append]; rfl
theorem gapsAt_len (v : List Int) (p n : Nat) : (gapsAt v p n).length = n := by unfold gapsAt; simp
theorem foursAt_len (v : List Int) (p n : Nat) : (foursAt v p n).length = n := by unfold foursAt; simp
theorem gcs_append (xs ys : List (Int × Int)) : gcs (xs ++ ys) = gcs xs ++ gcs ys := by unfold gcs; rw [List.flatMap_append]
theorem dcs_append (xs ys : List Int) : dcs (xs ++ ys) = dcs xs ++ dcs ys := by unfold dcs; rw [List.map_append]
theorem gr_own {w w1 w2 : World} {B : Nat} {row : Option Nat} (h : w.grownBy w1 (some B)) (h2 : w1.grownBy w2 row) (hr : ∀ k, row = some k → w.heap.size ≤ k) : w.grownBy w2 (some B) := by
  obtain ⟨a1, a2, a3, a4, a5⟩ := h
  obtain ⟨b1, b2, b3, b4, b5⟩ := h2
  exact ⟨b1.trans a1, b2.trans a2, b3.trans a3, Nat.le_trans a4 b4, fun k hk hne => (b5 k (Nat.lt_of_lt_of_le hk a4) (fun e => absurd (hr k e.symm) (Nat.not_le.2 hk))).trans (a5 k hk hne)⟩
theorem Rp.own {base : Nat} {w0 w w1 w2 : World} {B p : Nat} {v : List Int} {row : Option Nat} (h : Rp base w0 w1 B v p) (hB : B < w.heap.size) (hw : w0.heap.size ≤ w.heap.size) (h2 : w1.grownBy w2 row) (hr : ∀ k, row = some k → w.heap.size ≤ k) : Rp base w0 w2 B v p := by
  refine ⟨h.1.same ?_, h.2.1, h.2.2.1, h.2.2.2.1.grown h2 h.2.2.2.1.size (fun k hk => Nat.le_trans hw (hr k hk)), h.2.2.2.2⟩
  obtain ⟨b1, b2, b3, b4, b5⟩ := h2
  exact b5 B h.1.lt (fun e => absurd (hr B e.symm) (Nat.not_le.2 hB))
theorem own_keep {w w1 : World} {base e s n B : Nat} {v : Value} {xs : List Value} (h : w.ownsRow base e s v n xs) (hB : B < base) (hg : w.grownBy w1 (some B)) : w1.ownsRow base e s v n xs := by
  refine h.kept hg ?_
  rcases hv : v.ownBlock with _ | k
  · exact .inl rfl
  · refine .inr (fun e => ?_)
    cases e
    exact absurd (h.lt _ hv).1 (Nat.not_le.2 hB)
theorem Rp.alloc {base : Nat} {w0 w : World} {B p : Nat} {v : List Int} (h : Rp base w0 w B v p) (o : Obj) : Rp base w0 (w.alloc o) B v p :=
  ⟨h.1.same (heap_alloc_old w o h.1.lt), h.2.1, h.2.2.1, h.2.2.2.1.alloc h.2.2.2.1.size o, h.2.2.2.2⟩
set_option maxRecDepth 20000 in
theorem gaps (base : Nat) (w0 w : World) (B p n : Nat) (v : List Int) (h : Rp base w0 w B v p) (hn : n ≤ 4096) (hp : p + 4 * n ≤ v.length) :
    Calls Try.prog 84 #[.pointer (some ⟨B, 0, none⟩), .int .i64 (n : Int)] w fun e w' => ∃ u, e = .returned u ∧ w'.ownsRow w.heap.size 69 2 u n (gcs (gapsAt v p n)) ∧ Rp base w0 w' B v (p + 4 * n) ∧ w.grownBy w' (some B) := by
  obtain ⟨i0, hi, hz0, hz1, hz2⟩ := info_parts infoG
  have HR := hidden h
  have hB := h.1.lt
  have HW := hidden h.2.2.2.1.size
  clear h
  go_enter Try.func84, Try.ntmps84
  go_wp2_with fail
  go_loopw [5, 8] (fun u i wr => ∃ k : Nat, k ≤ n ∧ i = .int .i64 k ∧ wr.ownsRow w.heap.size 69 2 u k (gcs (gapsAt v p k)) ∧ Rp base w0 wr B v (p + 4 * k) ∧ w.grownBy wr (some B)) (fun _ i _ => n - (intOf i).toNat)
  case atStart => exact ⟨0, Nat.zero_le _, rfl, World.ownsRow_nil _ _ _ _, HR.out, World.grownBy.refl _ _⟩
  case round =>
    obtain ⟨k, hk, rfl, ho, hR, hg⟩ := hrel
    rcases Nat.lt_or_ge k n with hlt | hge
    · obtain ⟨va, vc, rfl⟩ := form_of ho
      have T1 := hidden (two base w0 wr B (p + 4 * k) v hR (by omega))
      have HO := hidden ho
      have HG := hidden hg
      clear ho hR hg
      have HS := hidden (gapsAt_succ v p k)
      go_wp2_with fail
      refine Calls.mono T1.out ?_
      rintro e w1 ⟨rfl, h1, g1⟩
      have T2 := hidden (two base w0 w1 B (p + 4 * k + 2) v h1 (by omega))
      have HO1 := hidden (own_keep HO.out hB g1)
      have HG1 := hidden (gr_trans HG.out g1)
      clear T1 h1 g1 HO HG
      go_wp2_with fail
      refine Calls.mono T2.out ?_
      rintro e w2 ⟨rfl, h2, g2⟩
      have HR2 := hidden h2
      have HO2 := hidden (own_keep HO1.out hB g2)
      have HG2 := hidden (gr_trans HG1.out g2)
      have hs2 : w.heap.size ≤ w2.heap.size := by obtain ⟨_, _, _, h, _⟩ := HG2.out; exact h
      clear T2 h2 g2 HO1 HG1
      generalize n2 v (p + 4 * k) = x at *
      generalize n2 v (p + 4 * k + 2) = y at *
      go_wp2_with (at_builtin; refine wpList_append_own _ rfl _ _ 33 rfl w.heap.size 69 i0 (.agg #[.int .u16 0, .int .u16 0]) 2 4 Try.underlying33 hi hz0 hz1 hz2 rfl (by decide) _ _ _ rfl (HO2.out.alloc _) ⟨w2.heap.size, 0, none⟩ 1 1 [.int .u16 x, .int .u16 y] rfl rfl (cells_new w2 _ 69) ?c2 ?c3 ?c4 ?c5 ?_)
      case c2 =>
        intro u hu
        simp only [List.mem_cons, List.not_mem_nil, or_false] at hu
        rcases hu with rfl | rfl <;> rfl
      case c3 => unfold maxLen; omega
      case c4 => omega
      case c5 => simp; omega
      intro v' w3 ho3 hg3 _
      have hrw := fun k hk => (HO2.out.lt k hk).1
      have HO3 := hidden ho3
      have g3 := gr_own (gr_own HG2.out (World.grownBy_alloc w2 (.cells #[.int .u16 x, .int .u16 y] 69) none) (fun k hk => by cases hk)) hg3 hrw
      have HG3 := hidden g3
      have HR3 := hidden ((HR2.out.alloc (.cells #[.int .u16 x, .int .u16 y] 69)).own hB HW.out hg3 hrw)
      clear ho3 hg3 g3 hrw
      go_wp2
      go_roundw
      case rel => exact ⟨k + 1, by omega, by go_num, by rw [HS.out, gcs_append]; exact HO3.out, by rw [show p + 4 * (k + 1) = p + 4 * k + 2 + 2 by omega]; exact HR3.out, HG3.out⟩
      case measure => simp [intOf]; omega
    · obtain rfl : n = k := by omega
      have HO := hidden ho
      have HRR := hidden hR
      have HG := hidden hg
      clear ho hR hg
      go_wp2
      go_ret
      exact ⟨_, rfl, HO.out, HRR.out, HG.out⟩
set_option maxRecDepth 20000 in
theorem foursR (base : Nat) (w0 w : World) (B p n : Nat) (v : List Int) (h : Rp base w0 w B v p) (hn : n ≤ 4096) (hp : p + 4 * n ≤ v.length) :
    Calls Try.prog 85 #[.pointer (some ⟨B, 0, none⟩), .int .i64 (n : Int)] w fun e w' => ∃ u, e = .returned u ∧ w'.ownsRow w.heap.size 31 1 u n (dcs (foursAt v p n)) ∧ Rp base w0 w' B v (p + 4 * n) ∧ w.grownBy w' (some B) := by
  obtain ⟨i0, hi, hz0, hz1, hz2⟩ := info_parts info32
  have HR := hidden h
  have hB := h.1.lt
  have HW := hidden h.2.2.2.1.size
  clear h
  go_enter Try.func85, Try.ntmps85
  go_wp2_with fail
  go_loopw [5, 7] (fun u i wr => ∃ k : Nat, k ≤ n ∧ i = .int .i64 k ∧ wr.ownsRow w.heap.size 31 1 u k (dcs (foursAt v p k)) ∧ Rp base w0 wr B v (p + 4 * k) ∧ w.grownBy wr (some B)) (fun _ i _ => n - (intOf i).toNat)
  case atStart => exact ⟨0, Nat.zero_le _, rfl, World.ownsRow_nil _ _ _ _, HR.out, World.grownBy.refl _ _⟩
  case round =>
    obtain ⟨k, hk, rfl, ho, hR, hg⟩ := hrel
    rcases Nat.lt_or_ge k n with hlt | hge
    · obtain ⟨va, vc, rfl⟩ := form_of ho
      have T1 := hidden (four base w0 wr B (p + 4 * k) v hR (by omega))
      have HO := hidden ho
      have HG := hidden hg
      clear ho hR hg
      have HS := hidden (foursAt_succ v p k)
      go_wp2_with fail
      refine Calls.mono T1.out ?_
      rintro e w2 ⟨rfl, h2, g2⟩
      have HR2 := hidden h2
      have HO2 := hidden (own_keep HO.out hB g2)
      have HG2 := hidden (gr_trans HG.out g2)
      have hs2 : w.heap.size ≤ w2.heap.size := by obtain ⟨_, _, _, h, _⟩ := HG2.out; exact h
      clear T1 h2 g2 HO HG
      generalize n4 v (p + 4 * k) = x at *
      go_wp2_with (at_builtin; refine wpList_append_own _ rfl _ _ 34 rfl w.heap.size 31 i0 (.int .u32 0) 1 4 Try.underlying34 hi hz0 hz1 hz2 rfl (by decide) _ _ _ rfl (HO2.out.alloc _) ⟨w2.heap.size, 0, none⟩ 1 1 [.int .u32 x] rfl rfl (cells_new w2 _ 31) ?c2 ?c3 ?c4 ?c5 ?_)
      case c2 =>
        intro u hu
        simp only [List.mem_cons, List.not_mem_nil, or_false] at hu
        subst hu
        rfl
      case c3 => unfold maxLen; omega
      case c4 => omega
      case c5 => simp; omega
      intro v' w3 ho3 hg3 _
      have hrw := fun k hk => (HO2.out.lt k hk).1
      have HO3 := hidden ho3
      have g3 := gr_own (gr_own HG2.out (World.grownBy_alloc w2 (.cells #[.int .u32 x] 31) none) (fun k hk => by cases hk)) hg3 hrw
      have HG3 := hidden g3
      have HR3 := hidden ((HR2.out.alloc (.cells #[.int .u32 x] 31)).own hB HW.out hg3 hrw)
      clear ho3 hg3 g3 hrw
      go_wp2
      go_roundw
      case rel => exact ⟨k + 1, by omega, by go_num, by rw [HS.out, dcs_append]; exact HO3.out, by rw [show p + 4 * (k + 1) = p + 4 * k + 4 by omega]; exact HR3.out, HG3.out⟩
      case measure => simp [intOf]; omega
    · obtain rfl : n = k := by omega
      have HO := hidden ho
      have HRR := hidden hR
      have HG := hidden hg
      clear ho hR hg
      go_wp2
      go_ret
      exact ⟨_, rfl, HO.out, HRR.out, HG.out⟩
theorem counts3 (base : Nat) (w0 w : World) (B p : Nat) (v : List Int) (h : Rp base w0 w B v p) (hp : p + 4 ≤ v.length) :
    Calls Try.prog 83 #[.pointer (some ⟨B, 0, none⟩), .int .u8 3] w fun e w' => e = .returned (.tuple #[.int .i64 (n2 v p), .int .i64 0, .int .i64 (n2 v (p + 2))]) ∧ Rp base w0 w' B v (p + 4) ∧ w.grownBy w' (some B) := by
  have T1 := hidden (two base w0 w B p v h (by omega))
  have x1 := n2_bound h.2.2.1 p
  have x2 := n2_bound h.2.2.1 (p + 2)
  clear h
  go_enter Try.func83, Try.ntmps83
  go_wp2_with fail
  refine Calls.mono T1.out ?_
  rintro e w1 ⟨rfl, h1, g1⟩
  have T2 := hidden (two base w0 w1 B (p + 2) v h1 (by omega))
  have HG := hidden g1
  clear T1 h1 g1
  go_wp2_with fail
  refine Calls.mono T2.out ?_
  rintro e w2 ⟨rfl, h2, g2⟩
  have H2 := hidden h2
  have HG2 := hidden (gr_trans HG.out g2)
  clear T2 h2 g2
  go_wp2
  go_ret3
  exact ⟨rfl, H2.out, HG2.out⟩
theorem counts16 (base : Nat) (w0 w : World) (B p : Nat) (v : List Int) (h : Rp base w0 w B v p) (hp : p + 8 ≤ v.length) :
    Calls Try.prog 83 #[.pointer (some ⟨B, 0, none⟩), .int .u8 16] w fun e w' => e = .returned (.tuple #[.int .i64 (n2 v p), .int .i64 (n2 v (p + 2)), .int .i64 (n2 v (p + 4))]) ∧ Rp base w0 w' B v (p + 8) ∧ w.grownBy w' (some B) := by
  have T1 := hidden (two base w0 w B p v h (by omega))
  have x1 := n2_bound h.2.2.1 p
  have x2 := n2_bound h.2.2.1 (p + 2)
  have x3 := n2_bound h.2.2.1 (p + 4)
  clear h
  go_enter Try.func83, Try.ntmps83
  go_wp2_with fail
  refine Calls.mono T1.out ?_
  rintro e w1 ⟨rfl, h1, g1⟩
  have T2 := hidden (two base w0 w1 B (p + 2) v h1 (by omega))
  have HG := hidden g1
  clear T1 h1 g1
  go_wp2_with fail
  refine Calls.mono T2.out ?_
  rintro e w2 ⟨rfl, h2, g2⟩
  have T3 := hidden (two base w0 w2 B (p + 4) v h2 (by omega))
  have HG2 := hidden (gr_trans HG.out g2)
  clear T2 h2 g2
  go_wp2_with fail
  refine Calls.mono T3.out ?_
  rintro e w3 ⟨rfl, h3, g3⟩
  have SK := hidden (skip base w0 w3 B (p + 6) 2 v h3 (by omega))
  have HG3 := hidden (gr_trans HG2.out g3)
  clear T3 h3 g3
  go_wp2_with fail
  refine Calls.mono SK.out ?_
  rintro e w4 ⟨rfl, h4, g4⟩
  rw [show p + 6 + min 2 (v.length - (p + 6)) = p + 8 by omega] at h4
  have H4 := hidden h4
  have HG4 := hidden (gr_trans HG3.out g4)
  clear SK h4 g4
  go_wp2
  go_ret3
  exact ⟨rfl, H4.out, HG4.out⟩
theorem gr_below {w w' : World} (h : Below w.heap.size w w') (row : Option Nat) : w.grownBy w' row := ⟨h.os, h.tape, h.output, h.size, fun k hk _ => h.block k hk⟩
theorem Rp.later {base : Nat} {w0 w w' : World} {B p : Nat} {v : List Int} (h : Rp base w0 w B v p) (hb : Below w.heap.size w w') : Rp base w0 w' B v p :=
  ⟨h.1.same (hb.block B h.1.lt), h.2.1, h.2.2.1, h.2.2.2.1.trans (hb.mono h.2.2.2.1.size), h.2.2.2.2⟩
/-- all that is left, new -/
theorem rest (base : Nat) (w0 w : World) (B p : Nat) (v : List Int) (h : Rp base w0 w B v p) :
    Calls Try.prog 77 #[.pointer (some ⟨B, 0, none⟩)] w fun e w' => ∃ u, e = .returned u ∧ w'.ownsRow w.heap.size 5 1 u (v.length - p) (Par.cs (v.drop p)) ∧ Rp base w0 w' B v v.length ∧ w.grownBy w' (some B) := by
  have HR := hidden h
  obtain ⟨⟨a, len, cap, h1, hrow, hlc, hnn⟩, hpl, _, _, _⟩ := h
  obtain ⟨c0, f0⟩ := rd_c h1
  have hl := hrow.1
  rw [List.length_drop] at hl
  have C := hidden (cut base w0 w B len _ HR.out.1 (by rw [List.length_drop]; omega))
  clear h1 hrow hnn
  go_enter Try.func77, Try.ntmps77
  go_wp2_with fail
  have CUT := hidden (show ∀ x : World, (∃ m, x = w.drewN m) → Calls Try.prog 60 #[.pointer (some ⟨B, 0, none⟩), .int .i64 (len : Int)] x fun e w' => ∃ a' cap', e = .returned (.slice a' len cap') ∧ Row base w0 a' len (v.drop p) ∧ len ≤ cap' ∧ (a' = none → len = 0 ∧ cap' = 0) ∧ Rp base w0 w' B v v.length ∧ w.grownBy w' (some B) by
    rintro x ⟨m, rfl⟩
    refine (cut base w0 (w.drewN m) B len _ HR.out.1 (by rw [List.length_drop]; omega)).mono ?_
    rintro e w1 ⟨a', cap', rfl, hr, h2, h3, h4, h5⟩
    rw [List.take_of_length_le (by rw [List.length_drop]; omega)] at hr
    rw [List.drop_drop, show p + len = v.length by omega] at h4
    have g : w.grownBy w1 (some B) := by obtain ⟨a1, a2, a3, a4, a5⟩ := h5; exact ⟨a1, a2, a3, a4, a5⟩
    exact ⟨a', cap', rfl, hr, h2, h3, HR.out.grown (Nat.le_refl _) h4 g, g⟩)
  clear C
  go_region_with (first
    | (go_at_call 60; refine Calls.mono (CUT.out _ ⟨_, rfl⟩) ?_; rintro e w1 ⟨a', cap', rfl, hr, h2, h3, h4, h5⟩)
    | (go_at_call 87; refine Calls.mono (Par.clone base w1 a' len cap' (v.drop p) (hr.later h4.2.2.2.1) h3) ?_; rintro e w2 ⟨u, rfl, hu, b2⟩))
  have hs1 : w.heap.size ≤ w1.heap.size := by obtain ⟨_, _, _, h, _⟩ := h5; exact h
  have HU := hidden (Par.own_mono hu hs1)
  have H4 := hidden (h4.later b2)
  have HG := hidden (gr_trans h5 (gr_below b2 _))
  have HL := hidden hl
  clear hu h4 h5 b2 hl hr h2 h3
  go_wp2
  go_ret
  exact ⟨u, rfl, by rw [HL.out]; exact HU.out, H4.out, HG.out⟩
end Go.Proofs.Ytifdkpifambhaaa.Chu
