/-
  Which chunks are alike, as package chunk tells it.
  Conditions: the numbers lie within their kinds, the cells hold them.
-/
import Derived.Test.YtifdkpifambhaaaChA
import Derived.Laws.StructEq
namespace Go.Proofs.Ytifdkpifambhaaa.Chu
open Go.ChangeShapes Go.WideShapes Go.ChangeAt Go.RowKit
open Par (hidden Bytes Row Prm Prms cell_lt)
set_option linter.unusedVariables false
attribute [local go_sem ↓] execOp_ld execOp_bx execOp_st
attribute [local go_sem] run_box cc_0 cc_1 cc_2 cc_3 cc_4 cc_5 cc_6 cc_7 cc_8 cc_9 cc_10 cc_11 cc_12 cc_13 cc_14

theorem take_step {α : Type} {xs ys : List α} {k : Nat} {x y : α} (hx : xs[k]? = some x) (hy : ys[k]? = some y) (h : xs.take k = ys.take k) (e : x = y) : xs.take (k + 1) = ys.take (k + 1) := by
  rw [List.take_add_one, List.take_add_one, hx, hy, h, e]
theorem take_at {α : Type} {xs ys : List α} {k : Nat} {x y : α} (hx : xs[k]? = some x) (hy : ys[k]? = some y) (h : xs = ys) : x = y := by
  subst h
  rw [hx] at hy
  exact Option.some.inj hy
set_option maxRecDepth 20000 in
theorem equalG (base base' : Nat) (w : World) (a a' : Option Addr) (n m cap cap' : Nat) (gs hs : List (Int × Int)) (hp : Gaps base w a n gs) (hq : Gaps base' w a' m hs) :
    Calls Try.prog 41 #[.slice a n cap, .slice a' m cap'] w fun e w' => ∃ t : Bool, e = .returned (.bool t) ∧ (t = true ↔ gs = hs) ∧ Below w.heap.size w w' := by
  have HP := hidden hp
  have HQ := hidden hq
  have hpl := hp.1
  have hql := hq.1
  have hnl := hp.2.1
  have hml := hq.2.1
  clear hp hq
  by_cases hm : n = m
  · subst hm
    go_enter Try.func41, Try.ntmps41
    go_wp2_with fail
    go_loopw [13] (fun i wr => ∃ k : Nat, k ≤ n ∧ i = .int .i64 k ∧ gs.take k = hs.take k ∧ Below w.heap.size w wr) (fun i _ => n - (intOf i).toNat)
    case atStart => exact ⟨0, Nat.zero_le _, rfl, rfl, Below.refl _ _⟩
    case round =>
      obtain ⟨k, hk, rfl, hsame, hbl⟩ := hrel
      rcases Nat.lt_or_ge k n with hlt | hge
      · obtain ⟨b, off, s, e, rfl, hpk, hc1, hc2, _, _⟩ := (HP.out.later hbl).get hlt
        obtain ⟨b', off', s', e', rfl, hqk, hd1, hd2, _, _⟩ := (HQ.out.later hbl).get hlt
        have HPK := hidden hpk
        have HQK := hidden hqk
        have HSA := hidden hsame
        have HB := hidden hbl
        clear hpk hqk hsame hbl
        by_cases h1 : s = s'
        · subst h1
          by_cases h2 : e = e'
          · subst h2
            go_wp2
            go_quiet (fail)
            have B2 : Below w.heap.size w (wr.drewN nq) := Par.below_drewN HB.out nq
            go_wp2
            go_roundw
            case rel => exact ⟨k + 1, by omega, by go_num, take_step HPK.out HQK.out HSA.out rfl, B2⟩
            case measure => simp [intOf]; omega
          · go_wp2
            go_quiet (fail)
            have B2 : Below w.heap.size w (wr.drewN nq) := Par.below_drewN HB.out nq
            go_wp2
            go_ret
            exact ⟨false, rfl, ⟨fun h => (by cases h), fun h => absurd (take_at HPK.out HQK.out h) (by simp [h2])⟩, B2⟩
        · go_wp2
          go_quiet (fail)
          have B2 : Below w.heap.size w (wr.drewN nq) := Par.below_drewN HB.out nq
          go_wp2
          go_ret
          exact ⟨false, rfl, ⟨fun h => (by cases h), fun h => absurd (take_at HPK.out HQK.out h) (by simp [h1])⟩, B2⟩
      · obtain rfl : n = k := by omega
        rw [List.take_of_length_le (by omega), List.take_of_length_le (by omega)] at hsame
        have HSA := hidden hsame
        clear hsame
        go_wp2
        go_ret
        exact ⟨true, rfl, ⟨fun _ => HSA.out, fun _ => rfl⟩, hbl⟩
  · have hne : ¬ (n : Int) = (m : Int) := by omega
    go_enter Try.func41, Try.ntmps41
    go_wp2
    go_ret
    refine ⟨false, rfl, ⟨fun h => (by cases h), fun h => ?_⟩, Below.refl _ _⟩
    have := congrArg List.length h
    omega
theorem equalD (base base' : Nat) (w : World) (a a' : Option Addr) (n m cap cap' : Nat) (gs hs : List Int) (hp : Fours base w a n gs) (hq : Fours base' w a' m hs) :
    Calls Try.prog 42 #[.slice a n cap, .slice a' m cap'] w fun e w' => ∃ t : Bool, e = .returned (.bool t) ∧ (t = true ↔ gs = hs) ∧ Below w.heap.size w w' := by
  have HP := hidden hp
  have HQ := hidden hq
  have hpl := hp.1
  have hql := hq.1
  have hnl := hp.2.1
  have hml := hq.2.1
  clear hp hq
  by_cases hm : n = m
  · subst hm
    go_enter Try.func42, Try.ntmps42
    go_wp2_with fail
    go_loopw [13] (fun i wr => ∃ k : Nat, k ≤ n ∧ i = .int .i64 k ∧ gs.take k = hs.take k ∧ Below w.heap.size w wr) (fun i _ => n - (intOf i).toNat)
    case atStart => exact ⟨0, Nat.zero_le _, rfl, rfl, Below.refl _ _⟩
    case round =>
      obtain ⟨k, hk, rfl, hsame, hbl⟩ := hrel
      rcases Nat.lt_or_ge k n with hlt | hge
      · obtain ⟨b, off, s, rfl, hpk, hc1, _⟩ := (HP.out.later hbl).get hlt
        obtain ⟨b', off', s', rfl, hqk, hd1, _⟩ := (HQ.out.later hbl).get hlt
        have HPK := hidden hpk
        have HQK := hidden hqk
        have HSA := hidden hsame
        have HB := hidden hbl
        clear hpk hqk hsame hbl
        by_cases h1 : s = s'
        · subst h1
          go_wp2
          go_quiet (fail)
          have B2 : Below w.heap.size w (wr.drewN nq) := Par.below_drewN HB.out nq
          go_wp2
          go_roundw
          case rel => exact ⟨k + 1, by omega, by go_num, take_step HPK.out HQK.out HSA.out rfl, B2⟩
          case measure => simp [intOf]; omega
        · have h2 := bne_t h1
          go_wp2
          go_quiet (fail)
          have B2 : Below w.heap.size w (wr.drewN nq) := Par.below_drewN HB.out nq
          go_wp2
          go_ret
          exact ⟨false, rfl, ⟨fun h => (by cases h), fun h => absurd (take_at HPK.out HQK.out h) (by simp [h1])⟩, B2⟩
      · obtain rfl : n = k := by omega
        rw [List.take_of_length_le (by omega), List.take_of_length_le (by omega)] at hsame
        have HSA := hidden hsame
        clear hsame
        go_wp2
        go_ret
        exact ⟨true, rfl, ⟨fun _ => HSA.out, fun _ => rfl⟩, hbl⟩
  · have hne : ¬ (n : Int) = (m : Int) := by omega
    go_enter Try.func42, Try.ntmps42
    go_wp2
    go_ret
    refine ⟨false, rfl, ⟨fun h => (by cases h), fun h => ?_⟩, Below.refl _ _⟩
    have := congrArg List.length h
    omega
/-- alike: what they say is the same -/
theorem val_iff (c d : Ck) : val c = val d ↔ NumEq c d ∧ c.gs = d.gs ∧ c.ns = d.ns ∧ c.ds = d.ds ∧ c.bs = d.bs ∧ c.ps.map Par.val = d.ps.map Par.val := by
  simp [val, NumEq, and_assoc]
theorem same (base base' : Nat) (w : World) (c d : Ck) (hc : Lsts base w c) (hd : Lsts base' w d) :
    Calls Try.prog 22 #[cv c, cv d] w fun e w' => ∃ t : Bool, e = .returned (.bool t) ∧ (t = true ↔ val c = val d) ∧ Below w.heap.size w w' := by
  have hb := (below_box w c).trans ((below_box (w.alloc (.cells (cc c) 37)) d).mono (by simp))
  have b1 := (Bx.new w c).alloc (.cells (cc d) 37)
  have b2 := Bx.new (w.alloc (.cells (cc c) 37)) d
  simp only [World.size_alloc] at b2
  have HC := hidden hc
  have HD := hidden hd
  have l1 := b1.ld
  have l2 := b2.ld
  have H1 := hidden b1
  have H2 := hidden b2
  have HB := hidden hb
  have HV := hidden (val_iff c d)
  clear hb b1 b2 hc hd
  go_enter Try.func22, Try.ntmps22
  go_wp2_with fail
  generalize (w.alloc (.cells (cc c) 37)).alloc (.cells (cc d) 37) = W at *
  generalize w.heap.size + 1 = B2 at *
  clear l1 l2
  refine Calls.mono (sameNumbers c d _) ?_
  rintro e w1 ⟨t, rfl, ht, b1⟩
  have HB0 := hidden (HB.out.trans (b1.mono HB.out.size))
  have H10 := hidden (H1.out.later b1)
  have H20 := hidden (H2.out.later b1)
  have T0 := hidden ht
  clear ht b1 HB H1 H2
  rename Hid (Below w.heap.size w w1) => HB
  rename Hid (Bx w1 w.heap.size c) => H1
  rename Hid (Bx w1 B2 d) => H2
  rcases t with _ | _
  · go_wp2
    go_ret
    exact ⟨false, rfl, ⟨fun h => (by cases h), fun h => by have h := HV.out.1 h; exact T0.out.2 h.1⟩, HB.out⟩
  have P0 := hidden (T0.out.1 rfl)
  clear T0
  have K1 := H1.out.c10
  have K2 := H2.out.c10
  go_wp2_with fail
  refine Calls.mono (equalG base base' _ _ _ _ _ _ _ _ _ (HC.out.later HB.out).1 (HD.out.later HB.out).1) ?_
  rintro e w1 ⟨t, rfl, ht, b1⟩
  have HB0 := hidden (HB.out.trans (b1.mono HB.out.size))
  have H10 := hidden (H1.out.later b1)
  have H20 := hidden (H2.out.later b1)
  have T1 := hidden ht
  clear ht b1 HB H1 H2 K1 K2
  rename Hid (Below w.heap.size w w1) => HB
  rename Hid (Bx w1 w.heap.size c) => H1
  rename Hid (Bx w1 B2 d) => H2
  rcases t with _ | _
  · go_wp2
    go_ret
    exact ⟨false, rfl, ⟨fun h => (by cases h), fun h => by have h := HV.out.1 h; exact T1.out.2 h.2.1⟩, HB.out⟩
  have P1 := hidden (T1.out.1 rfl)
  clear T1
  have K1 := H1.out.c11
  have K2 := H2.out.c11
  go_wp2_with fail
  refine Calls.mono (equalG base base' _ _ _ _ _ _ _ _ _ (HC.out.later HB.out).2.1 (HD.out.later HB.out).2.1) ?_
  rintro e w1 ⟨t, rfl, ht, b1⟩
  have HB0 := hidden (HB.out.trans (b1.mono HB.out.size))
  have H10 := hidden (H1.out.later b1)
  have H20 := hidden (H2.out.later b1)
  have T2 := hidden ht
  clear ht b1 HB H1 H2 K1 K2
  rename Hid (Below w.heap.size w w1) => HB
  rename Hid (Bx w1 w.heap.size c) => H1
  rename Hid (Bx w1 B2 d) => H2
  rcases t with _ | _
  · go_wp2
    go_ret
    exact ⟨false, rfl, ⟨fun h => (by cases h), fun h => by have h := HV.out.1 h; exact T2.out.2 h.2.2.1⟩, HB.out⟩
  have P2 := hidden (T2.out.1 rfl)
  clear T2
  have K1 := H1.out.c12
  have K2 := H2.out.c12
  go_wp2_with fail
  refine Calls.mono (equalD base base' _ _ _ _ _ _ _ _ _ (HC.out.later HB.out).2.2.1 (HD.out.later HB.out).2.2.1) ?_
  rintro e w1 ⟨t, rfl, ht, b1⟩
  have HB0 := hidden (HB.out.trans (b1.mono HB.out.size))
  have H10 := hidden (H1.out.later b1)
  have H20 := hidden (H2.out.later b1)
  have T3 := hidden ht
  clear ht b1 HB H1 H2 K1 K2
  rename Hid (Below w.heap.size w w1) => HB
  rename Hid (Bx w1 w.heap.size c) => H1
  rename Hid (Bx w1 B2 d) => H2
  rcases t with _ | _
  · go_wp2
    go_ret
    exact ⟨false, rfl, ⟨fun h => (by cases h), fun h => by have h := HV.out.1 h; exact T3.out.2 h.2.2.2.1⟩, HB.out⟩
  have P3 := hidden (T3.out.1 rfl)
  clear T3
  have K1 := H1.out.c13
  have K2 := H2.out.c13
  go_wp2_with fail
  refine Calls.mono (Par.equal base base' _ _ _ _ _ _ _ _ _ (HC.out.later HB.out).2.2.2.1 (HD.out.later HB.out).2.2.2.1) ?_
  rintro e w1 ⟨t, rfl, ht, rfl⟩
  have T4 := hidden ht
  clear ht K1 K2
  rcases t with _ | _
  · go_wp2
    go_ret
    exact ⟨false, rfl, ⟨fun h => (by cases h), fun h => by have h := HV.out.1 h; exact T4.out.2 h.2.2.2.2.1⟩, HB.out⟩
  have P4 := hidden (T4.out.1 rfl)
  clear T4
  have K1 := H1.out.c14
  have K2 := H2.out.c14
  go_wp2_with fail
  refine Calls.mono (Par.same base base' _ _ _ _ _ _ _ _ _ (HC.out.later HB.out).2.2.2.2.2 (HD.out.later HB.out).2.2.2.2.2) ?_
  rintro e w1 ⟨t, rfl, ht, b1⟩
  have HB0 := hidden (HB.out.trans (b1.mono HB.out.size))
  have H10 := hidden (H1.out.later b1)
  have H20 := hidden (H2.out.later b1)
  have T5 := hidden ht
  clear ht b1 HB H1 H2 K1 K2
  rename Hid (Below w.heap.size w w1) => HB
  rename Hid (Bx w1 w.heap.size c) => H1
  rename Hid (Bx w1 B2 d) => H2
  go_wp2
  go_ret
  exact ⟨t, rfl, T5.out.trans ⟨fun h => HV.out.2 ⟨P0.out, P1.out, P2.out, P3.out, P4.out, h⟩, fun h => (HV.out.1 h).2.2.2.2.2⟩, HB.out⟩
end Go.Proofs.Ytifdkpifambhaaa.Chu
