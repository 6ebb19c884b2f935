/-
  The blocks that a set hands out, one by one, to whatever loop ranges over them.
  Conditions: the set was made by the package (or it is nil, or has no marks), the loop's body keeps what lay below it.
-/
import Derived.Test.YtdifceikfnnfeaaDoorSpSet
import Derived.Test.YtdifceikfnnfeaaDoorSpStretch
import Derived.RangeFuncNested
import Derived.RangeFuncBound
import Derived.RangeFuncCalls
import Derived.RangeFuncLeaves
import Derived.RangeFuncBox
import Derived.Shelf.Abstract
import Derived.Shelf.RegionOpen
import Derived.OwnWalkIn
import Derived.TacticsInMore
import Derived.LoopNIn
import Derived.LoopIn
import Derived.Deep.QuietTactic
import Derived.BigQuiet
namespace Go.Proofs.YtdifceikfnnfeaaDoor.Sp
open Go.RowKit Go.Shelf
set_option linter.unusedVariables false
attribute [local go_sem] Oper.semAt_some

def gapV (g : Nat × Nat) : Value := .agg #[.int .u16 (g.1 : Int), .int .u16 (g.2 : Int)]

theorem blk_at {L xs : List Nat} {x k : Nat} (e4 : blk L = (blk L).take k ++ blk (x :: xs)) (e5 : k + (blk (x :: xs)).length = (blk L).length) : (blk L)[k]? = some (x, x + ld x xs - 1) := by
  rw [e4, List.getElem?_append_right (by simp; omega), List.length_take, show k - min k (blk L).length = 0 by omega, blk_cons]
  rfl
theorem blk_next {L xs : List Nat} {x k : Nat} (e4 : blk L = (blk L).take k ++ blk (x :: xs)) (e5 : k + (blk (x :: xs)).length = (blk L).length) :
    blk L = (blk L).take (k + 1) ++ blk (xs.drop (ld x xs - 1)) ∧ k + 1 + (blk (xs.drop (ld x xs - 1))).length = (blk L).length := by
  have h := blk_at e4 e5
  obtain ⟨hlt, he⟩ := List.getElem?_eq_some_iff.1 h
  rw [blk_cons] at e4 e5
  refine ⟨?_, by simp at e5; omega⟩
  rw [List.take_add_one, h]
  simp only [Option.toList, List.append_assoc, List.singleton_append]
  exact e4

theorem blocks_in (l n₀ : Nat) (J : Nat → World → Prop) (Jx : World → Prop) {b c : Nat} {L : List Nat} 
    (hJ : ∀ k W W', J k W → W.grownBy W' none → J k W')
    (hY : ∀ k g W1, (blk L)[k]? = some g → J k W1 → YieldAt Fence.wide 8 Tryd.prog l #[gapV g] W1 fun e W' =>
      (e = .returned (.bool true) ∧ J (k + 1) W' ∧ Below n₀ W1 W') ∨ (e = .returned (.bool false) ∧ Jx W'))
    (W : World) (hS : IsSet W b c L) (hb : b < n₀) (hT : Tab W) (h0 : J 0 W) :
    CallsIn Fence.wide 9 Tryd.prog 65 #[.pointer (some ⟨b, 0, none⟩), .func (.yield l) #[] #[]] W fun e W' => (∃ v, e = .returned v) ∧ (J (blk L).length W' ∨ Jx W') := by
  obtain ⟨hc, hg, R, hA, hR⟩ := hS
  have hlen := good_len hg
  refine callsIn_wide.2 ?_
  go_enter Tryd.func65, Tryd.ntmps65
  go_wp2_with fail
  refine (count _ hA).mono ?_
  rintro e w' ⟨rfl, rfl⟩
  go_wp2_with fail
  go_loopw [4, 5] (fun d m wr => ∃ (k D : Nat) (M : List Nat) (dI mI : Int), d = .int .i64 dI ∧ m = .int .i64 mI ∧ Hid (dI = D ∧ mI = M.length ∧ Rest L D M ∧ blk L = (blk L).take k ++ blk M ∧ k + (blk M).length = (blk L).length) ∧ 2 ≤ dI ∧ dI ≤ 65536 ∧ 0 ≤ mI ∧ mI ≤ 65536 ∧ J k wr ∧ Below n₀ W wr)
    (fun d m wr => (intOf m).toNat)
  case atStart => exact ⟨0, 2, L, _, _, rfl, rfl, ⟨rfl, rfl, Rest.start hg, by simp, by simp⟩, by omega, by omega, by omega, by omega, h0, Below.refl _ _⟩
  case round =>
    obtain ⟨k, D, M, dI, mI, rfl, rfl, H, h2, h3, h4, h5, hJs, hB⟩ := hrel
    cases M with
    | nil =>
      have hm : mI = 0 := by have := H.out.2.1; simpa using this
      subst hm
      have hk : Hid (k = (blk L).length) := by have := H.out.2.2.2.2; simp [blk] at this; exact this
      go_wp2
      go_end0
      exact ⟨⟨_, rfl⟩, .inl (hk.out ▸ hJs)⟩
    | cons x xs =>
      have hpos : 0 < mI := by have := H.out.2.1; simp at this; omega
      have hA' := hA.of_block (w' := wr) (hB.block b hb)
      have hT' : Tab wr := hT.below hB (by omega)
      obtain ⟨e1, e2, e3, e4, e5⟩ := H.out
      obtain ⟨g1, g2, g3, g4, g5, g6, g7, g8⟩ := e3.gap hg
      have G1 := ring_gap hR hg e3 (f := (c + D) % 4294967296) (by omega)
      have G2 := ring_run hR hg e3 (f := (c + x) % 4294967296) (by omega)
      obtain ⟨xI, hxI⟩ : ∃ xI : Int, Hid (xI = x) := ⟨_, rfl⟩
      obtain ⟨sI, hsI⟩ : ∃ sI : Int, Hid (sI = ld x xs) := ⟨_, rfl⟩
      have C1 : Hid (∀ v : World, v.heap = wr.heap → Calls Tryd.prog 76 #[.pointer (some ⟨b, 0, none⟩), .int .i64 dI] v fun e w' => e = .returned (.int .u32 (((c + D) % 4294967296 : Nat) : Int)) ∧ w' = v) := fun v hv => by
        rw [e1]; exact (at_ D (by omega) v (hA'.of_block (by rw [hv])) hc).mono fun e w' h => ⟨h.1, h.2.symm⟩
      have C2 : Hid (∀ v : World, v.heap = wr.heap → Calls Tryd.prog 75 #[.pointer (some ⟨b, 0, none⟩), .int .u32 (((c + D) % 4294967296 : Nat) : Int), .bool false] v fun e w' => e = .returned (.int .i64 (xI - dI)) ∧ w' = v) := fun v hv => by
        rw [show xI - dI = ((x - D : Nat) : Int) by have := hxI.out; omega]
        exact (stretch _ (by omega) false (x - D) (by omega) v (hA'.of_block (by rw [hv])) hR.1 (fun i hi => (World.cell?_of_block (a := ⟨0, i, none⟩) (by rw [hv])).trans (hT' i hi)) G1.1 G1.2).mono fun e w' h => ⟨h.1, h.2.symm⟩
      have C3 : Hid (∀ v : World, v.heap = wr.heap → Calls Tryd.prog 76 #[.pointer (some ⟨b, 0, none⟩), .int .i64 xI] v fun e w' => e = .returned (.int .u32 (((c + x) % 4294967296 : Nat) : Int)) ∧ w' = v) := fun v hv => by
        rw [hxI.out]; exact (at_ x (by omega) v (hA'.of_block (by rw [hv])) hc).mono fun e w' h => ⟨h.1, h.2.symm⟩
      have C4 : Hid (∀ v : World, v.heap = wr.heap → Calls Tryd.prog 75 #[.pointer (some ⟨b, 0, none⟩), .int .u32 (((c + x) % 4294967296 : Nat) : Int), .bool true] v fun e w' => e = .returned (.int .i64 sI) ∧ w' = v) := fun v hv => by
        rw [hsI.out]
        exact (stretch _ (by omega) true (ld x xs) (by omega) v (hA'.of_block (by rw [hv])) hR.1 (fun i hi => (World.cell?_of_block (a := ⟨0, i, none⟩) (by rw [hv])).trans (hT' i hi)) G2.1 G2.2).mono fun e w' h => ⟨h.1, h.2.symm⟩
      generalize (((c + D) % 4294967296 : Nat) : Int) = tD at C1 C2
      generalize (((c + x) % 4294967296 : Nat) : Int) = tX at C3 C4
      have B1 : 2 ≤ xI ∧ xI ≤ 65535 ∧ 1 ≤ sI ∧ xI + sI ≤ 65536 ∧ sI ≤ mI := by have := hxI.out; have := hsI.out; have := ld_le x xs; simp at e2; omega
      obtain ⟨b1, b2, b3, b4, b5⟩ := B1
      have HG : Hid (D ≤ x ∧ x ≤ 65535) := ⟨g1, g2⟩
      have hw1 : IntKind.i64.wrap (dI + (xI - dI)) = xI := by rw [show dI + (xI - dI) = xI by omega]; rw [IntKind.wrap_i64]; omega
      clear e1 e2 e3 e4 e5 g1 g2 g3 g4 g5 g6 g7 g8 G1 G2
      go_wp2_with fail
      go_quiet (first | (go_at_call 76; exact Calls.quiet_of_same (C1.out _ rfl)) | (go_at_call 75; exact Calls.quiet_of_same (C2.out _ rfl)))
      obtain ⟨w2, hw2, hh2⟩ : ∃ w2, wr.drewN nq = w2 ∧ Hid (w2.heap = wr.heap ∧ wr.grownBy w2 none) := ⟨_, rfl, rfl, ⟨rfl, rfl, rfl, Nat.le_refl _, fun _ _ _ => rfl⟩⟩
      rw [hw2]
      clear hw2
      go_wp2_with fail
      go_quiet (first | (go_at_call 76; exact Calls.quiet_of_same (C3.out _ hh2.out.1)) | (go_at_call 75; exact Calls.quiet_of_same (C4.out _ hh2.out.1)))
      obtain ⟨w3, hw3, hh3⟩ : ∃ w3, w2.drewN nq = w3 ∧ Hid (w3.heap = wr.heap ∧ wr.grownBy w3 none) := ⟨_, rfl, hh2.out.1, ⟨hh2.out.2.os, hh2.out.2.tape, hh2.out.2.output, hh2.out.2.size, hh2.out.2.block⟩⟩
      rw [hw3]
      clear hw3
      have hJ3 := hJ k wr w3 hJs hh3.out.2
      have hB3 : Below n₀ W w3 := hB.trans ⟨hh3.out.2.os, hh3.out.2.tape, hh3.out.2.output, hh3.out.2.size, fun j hj => by rw [hh3.out.1]⟩
      go_step
      go_step
      go_step
      refine (wpIn_wide (n := 9)).1 ?_
      obtain ⟨fn, tmps, assign, body, hy, hRd⟩ := hY k _ w3 (blk_at H.out.2.2.2.1 H.out.2.2.2.2) hJ3
      rw [show gapV (x, x + ld x xs - 1) = Value.agg #[.int .u16 xI, .int .u16 (xI + sI - 1)] by
        unfold gapV; rw [hxI.out, hsI.out]; simp only []; rw [show ((x + ld x xs - 1 : Nat) : Int) = (x : Int) + (ld x xs : Int) - 1 by have := ld_pos x xs; omega]] at hy
      gi_wp2_with fail
      refine hRd.mono ?_
      rintro e w4 (⟨rfl, hJ4, hB4⟩ | ⟨rfl, hx4⟩)
      · gi_wp2
        go_wp2
        go_roundw
        case rel =>
          obtain ⟨e1, e2, e3, e4, e5⟩ := H.out
          have hn := blk_next e4 e5
          have hln := ld_le x xs
          refine ⟨k + 1, x + ld x xs, xs.drop (ld x xs - 1), _, _, rfl, rfl, ⟨by have := hxI.out; have := hsI.out; omega, ?_, e3.next hg, hn.1, hn.2⟩, by omega, by omega, by omega, by omega, hJ4, hB3.trans hB4⟩
          have := hsI.out
          simp only [List.length_drop]
          simp at e2
          have := ld_pos x xs
          omega
        case measure => simp only [intOf]; omega
      · gi_wp2
        refine bodyPost_ret (results_none rfl _ _ _) rfl ?_
        exact ⟨⟨_, rfl⟩, .inr hx4⟩

/-- a set without marks, and none at all, hand out nothing -/
theorem blocks_none (l : Nat) (p : Option Addr) (W : World) (hc : Calls Tryd.prog 74 #[.pointer p] W fun e w' => e = .returned (.int .i64 0) ∧ W = w') :
    CallsIn Fence.wide 9 Tryd.prog 65 #[.pointer p, .func (.yield l) #[] #[]] W fun e W' => (∃ v, e = .returned v) ∧ W = W' := by
  have HC : Hid _ := hc
  clear hc
  refine callsIn_wide.2 ?_
  go_enter Tryd.func65, Tryd.ntmps65
  go_wp2_with fail
  refine Calls.mono HC.out ?_
  rintro e w' ⟨rfl, rfl⟩
  go_wp2_with fail
  refine wp_loop_rounds 1 ?_
  rw [rounds_succ]
  go_wp2
  go_end0
  exact ⟨⟨_, rfl⟩, rfl⟩

/-- what a loop over the blocks of the set behind p is handed: bs, one by one -/
def Hands (n₀ : Nat) (p : Option Addr) (bs : List (Nat × Nat)) (w : World) : Prop :=
  ∀ (l : Nat) (J : Nat → World → Prop) (Jx : World → Prop) (W : World), Below n₀ w W →
    (∀ k W W', J k W → W.grownBy W' none → J k W') →
    (∀ k g W1, bs[k]? = some g → J k W1 → YieldAt Fence.wide 8 Tryd.prog l #[gapV g] W1 fun e W' =>
      (e = .returned (.bool true) ∧ J (k + 1) W' ∧ Below n₀ W1 W') ∨ (e = .returned (.bool false) ∧ Jx W')) → J 0 W →
    CallsIn Fence.wide 9 Tryd.prog 65 #[.pointer p, .func (.yield l) #[] #[]] W fun e W' => (∃ v, e = .returned v) ∧ (J bs.length W' ∨ Jx W')

theorem hands_set {w : World} {b c : Nat} {L : List Nat} {n₀ : Nat} (hS : IsSet w b c L) (hb : b < n₀) (hT : Tab w) : Hands n₀ (some ⟨b, 0, none⟩) (blk L) w :=
  fun l J Jx W hW hJ hY h0 => blocks_in l n₀ J Jx hJ hY W (by obtain ⟨h1, h2, R, h3, h4⟩ := hS; exact ⟨h1, h2, R, h3.of_block (hW.block b hb), h4⟩) hb (hT.below hW (by omega)) h0
theorem hands_nil (n₀ : Nat) (w : World) : Hands n₀ none [] w :=
  fun l J Jx W hW hJ hY h0 => (blocks_none l none W (countNil W)).mono fun e W' h => ⟨h.1, .inl (h.2 ▸ h0)⟩
theorem hands_zero {w : World} {b c : Nat} {R : Nat → Nat} {made : Bool} {n₀ : Nat} (hA : At w b R 0 made c) (hb : b < n₀) : Hands n₀ (some ⟨b, 0, none⟩) [] w :=
  fun l J Jx W hW hJ hY h0 => (blocks_none l _ W (count W (hA.of_block (hW.block b hb)))).mono fun e W' h => ⟨h.1, .inl (h.2 ▸ h0)⟩
end Go.Proofs.YtdifceikfnnfeaaDoor.Sp
