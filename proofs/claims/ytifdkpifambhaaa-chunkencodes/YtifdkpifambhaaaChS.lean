/-
  Which chunks are alike, as the document tells it.
  Conditions: the numbers lie within their kinds, the cells hold them.
-/
import Derived.Test.YtifdkpifambhaaaChB
namespace Go.Proofs.Ytifdkpifambhaaa.Chu
open Go.ChangeShapes Go.WideShapes Go.ChangeAt Go.RowKit
open Par (hidden Bytes Row Prm Prms cell_lt)
set_option linter.unusedVariables false
attribute [local go_sem ↓] execOp_ld execOp_bx execOp_st
attribute [local go_sem] run_box cc_0 cc_1 cc_2 cc_3 cc_4 cc_5 cc_6 cc_7 cc_8 cc_9 cc_10 cc_11 cc_12 cc_13 cc_14

set_option maxRecDepth 20000 in
theorem rSameGaps (base base' : Nat) (w : World) (a a' : Option Addr) (n m cap cap' : Nat) (gs hs : List (Int × Int)) (hp : Gaps base w a n gs) (hq : Gaps base' w a' m hs) :
    Calls Try.prog 38 #[.slice a n cap, .slice a' m cap'] w fun e w' => ∃ t : Bool, e = .returned (.bool t) ∧ (t = true ↔ gs = hs) ∧ Below w.heap.size w w' := by
  have HP := hidden hp
  have HQ := hidden hq
  have hpl := hp.1
  have hql := hq.1
  have hnl := hp.2.1
  have hml := hq.2.1
  clear hp hq
  by_cases hm : n = m
  · subst hm
    go_enter Try.func38, Try.ntmps38
    go_wp2_with fail
    go_loopw [5] (fun i wr => ∃ k : Nat, k ≤ n ∧ i = .int .i64 k ∧ gs.take k = hs.take k ∧ Below w.heap.size w wr) (fun i _ => n - (intOf i).toNat)
    case atStart => exact ⟨0, Nat.zero_le _, rfl, rfl, Below.refl _ _⟩
    case round =>
      obtain ⟨k, hk, rfl, hsame, hbl⟩ := hrel
      rcases Nat.lt_or_ge k n with hlt | hge
      · obtain ⟨b, off, s, e, rfl, hpk, hc1, hc2, _, _⟩ := (HP.out.later hbl).get hlt
        obtain ⟨b', off', s', e', rfl, hqk, hd1, hd2, _, _⟩ := (HQ.out.later hbl).get hlt
        have HPK := hidden hpk
        have HQK := hidden hqk
        have HSA := hidden hsame
        have HB := hidden hbl
        clear hpk hqk hsame hbl
        by_cases h1 : s = s'
        · subst h1
          by_cases h2 : e = e'
          · subst h2
            go_wp2
            go_quiet (fail)
            have B2 : Below w.heap.size w (wr.drewN nq) := Par.below_drewN HB.out nq
            go_wp2
            go_roundw
            case rel => exact ⟨k + 1, by omega, by go_num, take_step HPK.out HQK.out HSA.out rfl, B2⟩
            case measure => simp [intOf]; omega
          · go_wp2
            go_quiet (fail)
            have B2 : Below w.heap.size w (wr.drewN nq) := Par.below_drewN HB.out nq
            go_wp2
            go_ret
            exact ⟨false, rfl, ⟨fun h => (by cases h), fun h => absurd (take_at HPK.out HQK.out h) (by simp [h2])⟩, B2⟩
        · go_wp2
          go_quiet (fail)
          have B2 : Below w.heap.size w (wr.drewN nq) := Par.below_drewN HB.out nq
          go_wp2
          go_ret
          exact ⟨false, rfl, ⟨fun h => (by cases h), fun h => absurd (take_at HPK.out HQK.out h) (by simp [h1])⟩, B2⟩
      · obtain rfl : n = k := by omega
        rw [List.take_of_length_le (by omega), List.take_of_length_le (by omega)] at hsame
        have HSA := hidden hsame
        clear hsame
        go_wp2
        go_ret
        exact ⟨true, rfl, ⟨fun _ => HSA.out, fun _ => rfl⟩, hbl⟩
  · have hne : ¬ (n : Int) = (m : Int) := by omega
    go_enter Try.func38, Try.ntmps38
    go_wp2
    go_ret
    refine ⟨false, rfl, ⟨fun h => (by cases h), fun h => ?_⟩, Below.refl _ _⟩
    have := congrArg List.length h
    omega

set_option maxRecDepth 20000 in
theorem rSame_ne (base base' : Nat) (w : World) (c d : Ck) (hne : ¬ NumEq c d) :
    Calls Try.prog 18 #[cv c, cv d] w fun e w' => e = .returned (.bool false) ∧ Below w.heap.size w w' := by
  have hb := (below_box w c).trans ((below_box (w.alloc (.cells (cc c) 37)) d).mono (by simp))
  have b1 := (Bx.new w c).alloc (.cells (cc d) 37)
  have b2 := Bx.new (w.alloc (.cells (cc c) 37)) d
  simp only [World.size_alloc] at b2
  go_enter Try.func18, Try.ntmps18
  go_upto_region 1 with fail
  generalize (w.alloc (.cells (cc c) 37)).alloc (.cells (cc d) 37) = W at *
  refine wp_region_lit ?_
  refine Ord.first_ne (N := 129) (T := 30) (κ := .u8) (fun B => fa0 _ B) (fun B v h => ldK _ _ v h) (fun X Y => neK _ X Y _ _) b1.c0 b2.c0 (by exact ⟨rfl, rfl, fun p hp => by simp only [List.mem_cons, List.not_mem_nil, or_false] at hp; rcases hp with rfl | rfl <;> rfl⟩) rfl rfl rfl rfl rfl rfl rfl rfl rfl rfl rfl rfl rfl rfl rfl rfl rfl rfl rfl rfl fun a1 hF1 => ?_
  refine Ord.st_move hF1 (.inl rfl) rfl rfl rfl fun a2 hF2 => ?_
  refine Ord.link_or (T := 5) (κ := .u8) (fun B => fa1 _ B) (fun B v h => ld8 _ _ v h) (fun X Y => ne8 _ X Y _ _) b1.c1 b2.c1 hF2 rfl rfl rfl rfl rfl rfl rfl rfl rfl rfl rfl rfl rfl rfl rfl rfl rfl rfl rfl (by decide) rfl rfl rfl rfl rfl rfl fun a3 hF3 => ?_
  refine Ord.st_move hF3 (.inl rfl) rfl rfl rfl fun a4 hF4 => ?_
  refine Ord.link_or (T := 31) (κ := .u32) (fun B => fa2 _ B) (fun B v h => ld32 _ _ v h) (fun X Y => ne32 _ X Y _ _) b1.c2 b2.c2 hF4 rfl rfl rfl rfl rfl rfl rfl rfl rfl rfl rfl rfl rfl rfl rfl rfl rfl rfl rfl (by decide) rfl rfl rfl rfl rfl rfl fun a5 hF5 => ?_
  refine Ord.st_move hF5 (.inl rfl) rfl rfl rfl fun a6 hF6 => ?_
  refine Ord.link_or (T := 32) (κ := .u16) (fun B => fa3 _ B) (fun B v h => ld16 _ _ v h) (fun X Y => ne16 _ X Y _ _) b1.c3 b2.c3 hF6 rfl rfl rfl rfl rfl rfl rfl rfl rfl rfl rfl rfl rfl rfl rfl rfl rfl rfl rfl (by decide) rfl rfl rfl rfl rfl rfl fun a7 hF7 => ?_
  refine Ord.st_move hF7 (.inl rfl) rfl rfl rfl fun a8 hF8 => ?_
  refine Ord.link_or (T := 32) (κ := .u16) (fun B => fa4 _ B) (fun B v h => ld16 _ _ v h) (fun X Y => ne16 _ X Y _ _) b1.c4 b2.c4 hF8 rfl rfl rfl rfl rfl rfl rfl rfl rfl rfl rfl rfl rfl rfl rfl rfl rfl rfl rfl (by decide) rfl rfl rfl rfl rfl rfl fun a9 hF9 => ?_
  refine Ord.st_move hF9 (.inl rfl) rfl rfl rfl fun a10 hF10 => ?_
  refine Ord.link_or (T := 31) (κ := .u32) (fun B => fa5 _ B) (fun B v h => ld32 _ _ v h) (fun X Y => ne32 _ X Y _ _) b1.c5 b2.c5 hF10 rfl rfl rfl rfl rfl rfl rfl rfl rfl rfl rfl rfl rfl rfl rfl rfl rfl rfl rfl (by decide) rfl rfl rfl rfl rfl rfl fun a11 hF11 => ?_
  refine Ord.st_move hF11 (.inl rfl) rfl rfl rfl fun a12 hF12 => ?_
  refine Ord.link_or (T := 31) (κ := .u32) (fun B => fa6 _ B) (fun B v h => ld32 _ _ v h) (fun X Y => ne32 _ X Y _ _) b1.c6 b2.c6 hF12 rfl rfl rfl rfl rfl rfl rfl rfl rfl rfl rfl rfl rfl rfl rfl rfl rfl rfl rfl (by decide) rfl rfl rfl rfl rfl rfl fun a13 hF13 => ?_
  refine Ord.st_move hF13 (.inl rfl) rfl rfl rfl fun a14 hF14 => ?_
  refine Ord.link_or (T := 31) (κ := .u32) (fun B => fa7 _ B) (fun B v h => ld32 _ _ v h) (fun X Y => ne32 _ X Y _ _) b1.c7 b2.c7 hF14 rfl rfl rfl rfl rfl rfl rfl rfl rfl rfl rfl rfl rfl rfl rfl rfl rfl rfl rfl (by decide) rfl rfl rfl rfl rfl rfl fun a15 hF15 => ?_
  refine Ord.st_move hF15 (.inl rfl) rfl rfl rfl fun a16 hF16 => ?_
  refine Ord.link_or (T := 32) (κ := .u16) (fun B => fa8 _ B) (fun B v h => ld16 _ _ v h) (fun X Y => ne16 _ X Y _ _) b1.c8 b2.c8 hF16 rfl rfl rfl rfl rfl rfl rfl rfl rfl rfl rfl rfl rfl rfl rfl rfl rfl rfl rfl (by decide) rfl rfl rfl rfl rfl rfl fun a17 hF17 => ?_
  refine Ord.st_move hF17 (.inl rfl) rfl rfl rfl fun a18 hF18 => ?_
  refine Ord.link_or (T := 32) (κ := .u16) (fun B => fa9 _ B) (fun B v h => ld16 _ _ v h) (fun X Y => ne16 _ X Y _ _) b1.c9 b2.c9 hF18 rfl rfl rfl rfl rfl rfl rfl rfl rfl rfl rfl rfl rfl rfl rfl rfl rfl rfl rfl (by decide) rfl rfl rfl rfl rfl rfl fun a19 hF19 => ?_
  refine wpList_nil ?_
  rename_i hKK
  refine hKK _ _ ?_
  have h4 := hF19.at0
  have h5 : a19.eval (Operand.tmp 73) = .bool true := by
    rw [h4]
    congr 1
    by_cases hf : (c.kind != d.kind || c.flags != d.flags || c.tsn != d.tsn || c.stream != d.stream || c.ssn != d.ssn || c.proto != d.proto || c.tag != d.tag || c.win != d.win || c.out != d.out || c.inn != d.inn) = true
    · exact hf
    · exact absurd (by simpa [NumEq, and_assoc] using hf) hne
  refine wp_cond_true h5 ?_
  refine wp_seq ?_
  refine wp_region_lit ?_
  refine Ord.st_val hF19 rfl rfl rfl (v := .bool false) (w' := W) rfl fun az hFz => ?_
  refine wpList_nil ?_
  refine wp_ret ?_
  have h6 := hFz.at0
  have h7 : az.tmps[4]?.getD undef = .bool false := by simpa [Act.eval] using h6
  exact (show bodyPost Try.prog Try.f18 (fun e w' => e = .returned (.bool false) ∧ Below w.heap.size w w') .ret az W from bodyPost_ret (v := .bool false) (by simp [results, Try.results18, go_sem, h7]) hFz.2.1 ⟨rfl, hb⟩)

set_option maxHeartbeats 1000000 in
set_option maxRecDepth 20000 in
theorem rSame_eq (base base' : Nat) (w : World) (c d : Ck) (hc : Lsts base w c) (hd : Lsts base' w d) (hn : NumEq c d) :
    Calls Try.prog 18 #[cv c, cv d] w fun e w' => ∃ t : Bool, e = .returned (.bool t) ∧ (t = true ↔ val c = val d) ∧ Below w.heap.size w w' := by
  have hb := (below_box w c).trans ((below_box (w.alloc (.cells (cc c) 37)) d).mono (by simp))
  have b1 := (Bx.new w c).alloc (.cells (cc d) 37)
  have b2 := Bx.new (w.alloc (.cells (cc c) 37)) d
  simp only [World.size_alloc] at b2
  have HC := hidden hc
  have HD := hidden hd
  have H1 := hidden b1
  have H2 := hidden b2
  have HB := hidden hb
  have HV := hidden (val_iff c d)
  have HN := hidden hn
  obtain ⟨n0, n1, n2, n3, n4, n5, n6, n7, n8, n9⟩ := hn
  have n0 := bne_f n0
  have n1 := bne_f n1
  have n2 := bne_f n2
  have n3 := bne_f n3
  have n4 := bne_f n4
  have n5 := bne_f n5
  have n6 := bne_f n6
  have n7 := bne_f n7
  have n8 := bne_f n8
  have n9 := bne_f n9

  have x1_0 := b1.c0
  have x1_1 := b1.c1
  have x1_2 := b1.c2
  have x1_3 := b1.c3
  have x1_4 := b1.c4
  have x1_5 := b1.c5
  have x1_6 := b1.c6
  have x1_7 := b1.c7
  have x1_8 := b1.c8
  have x1_9 := b1.c9
  have x1_10 := b1.c10
  have x2_0 := b2.c0
  have x2_1 := b2.c1
  have x2_2 := b2.c2
  have x2_3 := b2.c3
  have x2_4 := b2.c4
  have x2_5 := b2.c5
  have x2_6 := b2.c6
  have x2_7 := b2.c7
  have x2_8 := b2.c8
  have x2_9 := b2.c9
  have x2_10 := b2.c10
  clear hb b1 b2 hc hd
  rename_i m0 m1 m2 m3 m4 m5 m6 m7 m8 m9
  clear m0 m1 m2 m3 m4 m5 m6 m7 m8 m9
  go_enter Try.func18, Try.ntmps18
  go_wp2_with fail
  clear x1_0 x1_1 x1_2 x1_3 x1_4 x1_5 x1_6 x1_7 x1_8 x1_9 x1_10 x2_0 x2_1 x2_2 x2_3 x2_4 x2_5 x2_6 x2_7 x2_8 x2_9 x2_10 n0 n1 n2 n3 n4 n5 n6 n7 n8 n9
  generalize (w.alloc (.cells (cc c) 37)).alloc (.cells (cc d) 37) = W at *
  generalize w.heap.size + 1 = B2 at *
  refine Calls.mono (rSameGaps base base' _ _ _ _ _ _ _ _ _ (HC.out.later HB.out).1 (HD.out.later HB.out).1) ?_
  rintro e w1 ⟨t, rfl, ht, b1⟩
  have HB0 := hidden (HB.out.trans (b1.mono HB.out.size))
  have H10 := hidden (H1.out.later b1)
  have H20 := hidden (H2.out.later b1)
  have T0 := hidden ht
  clear ht b1 HB H1 H2
  rename Hid (Below w.heap.size w w1) => HB
  rename Hid (Bx w1 w.heap.size c) => H1
  rename Hid (Bx w1 B2 d) => H2
  rcases t with _ | _
  · go_wp2
    go_ret
    exact ⟨false, rfl, ⟨fun h => (by cases h), fun h => by have h := HV.out.1 h; exact T0.out.2 h.2.1⟩, HB.out⟩
  have P0 := hidden (T0.out.1 rfl)
  clear T0
  have k1_11 := H1.out.c11
  have k2_11 := H2.out.c11
  go_wp2_with fail
  clear k1_11 k2_11
  refine Calls.mono (rSameGaps base base' _ _ _ _ _ _ _ _ _ (HC.out.later HB.out).2.1 (HD.out.later HB.out).2.1) ?_
  rintro e w1 ⟨t, rfl, ht, b1⟩
  have HB0 := hidden (HB.out.trans (b1.mono HB.out.size))
  have H10 := hidden (H1.out.later b1)
  have H20 := hidden (H2.out.later b1)
  have T1 := hidden ht
  clear ht b1 HB H1 H2
  rename Hid (Below w.heap.size w w1) => HB
  rename Hid (Bx w1 w.heap.size c) => H1
  rename Hid (Bx w1 B2 d) => H2
  rcases t with _ | _
  · go_wp2
    go_ret
    exact ⟨false, rfl, ⟨fun h => (by cases h), fun h => by have h := HV.out.1 h; exact T1.out.2 h.2.2.1⟩, HB.out⟩
  have P1 := hidden (T1.out.1 rfl)
  clear T1
  have k1_12 := H1.out.c12
  have k2_12 := H2.out.c12
  have hdl := HC.out.2.2.1.1
  have hdl' := HD.out.2.2.1.1
  have hdm := HC.out.2.2.1.2.1
  by_cases hl : c.dl = d.dl
  case neg =>
    have hne : ¬ (c.dl : Int) = (d.dl : Int) := by omega
    go_wp2
    go_ret
    refine ⟨false, rfl, ⟨fun h => (by cases h), fun h => ?_⟩, HB.out⟩
    have h := congrArg List.length (HV.out.1 h).2.2.2.1
    omega
  have hle : ((c.dl : Int) != (d.dl : Int)) = false := by simp; omega
  have k1_13 := H1.out.c13
  have k2_13 := H2.out.c13
  have hcv : (convert 23 9 (.slice c.ba c.bl c.bc)).run Try.prog w1 = .ok (.string (strOfNums c.bs)) w1 := Par.conv_row _ _ _ _ _ _ (HC.out.later HB.out).2.2.2.1
  have hcv' : (convert 23 9 (.slice d.ba d.bl d.bc)).run Try.prog w1 = .ok (.string (strOfNums d.bs)) w1 := Par.conv_row _ _ _ _ _ _ (HD.out.later HB.out).2.2.2.1
  obtain ⟨tt, ht1, ht2⟩ := Par.str_beq c.bs d.bs HC.out.2.2.2.1.2.1 HD.out.2.2.2.1.2.1
  have HT2 := hidden ht2
  clear ht2
  rcases tt with _ | _
  · go_wp2
    go_ret
    exact ⟨false, rfl, ⟨fun h => (by cases h), fun h => by have h := HV.out.1 h; simpa using HT2.out.2 h.2.2.2.2.1⟩, HB.out⟩
  have P2 := hidden (HT2.out.1 rfl)
  clear HT2
  have HLL := hidden hl
  have HL1 := hidden hdl
  have HL2 := hidden hdl'
  go_wp2_with fail
  clear k1_13 k2_13 hcv hcv' ht1 k1_12 k2_12 hl hle hdl hdl'
  go_loopw [5] (fun i wr => ∃ k : Nat, k ≤ c.dl ∧ i = .int .i64 k ∧ c.ds.take k = d.ds.take k ∧ Below w.heap.size w wr ∧ Bx wr w.heap.size c ∧ Bx wr B2 d) (fun i _ => c.dl - (intOf i).toNat)
  case atStart => exact ⟨0, Nat.zero_le _, rfl, rfl, HB.out, H1.out, H2.out⟩
  case round =>
    obtain ⟨k, hk, rfl, hsame, hbl, hx1, hx2⟩ := hrel
    have k1_12 := hx1.c12
    have k2_12 := hx2.c12
    rcases Nat.lt_or_ge k c.dl with hlt | hge
    · have hlt' : k < d.dl := by rw [← HLL.out]; exact hlt
      obtain ⟨b, off, s, ea, hpk, hc1, _⟩ := (HC.out.later hbl).2.2.1.get hlt
      obtain ⟨b', off', s', ea', hqk, hd1, _⟩ := (HD.out.later hbl).2.2.1.get hlt'
      rw [ea] at k1_12
      rw [ea'] at k2_12
      have HPK := hidden hpk
      have HQK := hidden hqk
      have HSA := hidden hsame
      have HBL := hidden hbl
      have HX1 := hidden hx1
      have HX2 := hidden hx2
      clear hpk hqk hsame hbl ea ea' hx1 hx2
      by_cases h1 : s = s'
      · subst h1
        go_wp2
        go_quiet (fail)
        have B3 : Below w.heap.size w (wr.drewN nq) := Par.below_drewN HBL.out nq
        go_wp2
        go_roundw
        case rel => exact ⟨k + 1, by omega, by go_num, take_step HPK.out HQK.out HSA.out rfl, B3, HX1.out, HX2.out⟩
        case measure => simp [intOf]; omega
      · have h2 := bne_t h1
        go_wp2
        go_quiet (fail)
        have B3 : Below w.heap.size w (wr.drewN nq) := Par.below_drewN HBL.out nq
        go_wp2
        go_ret
        exact ⟨false, rfl, ⟨fun h => (by cases h), fun h => absurd (take_at HPK.out HQK.out (HV.out.1 h).2.2.2.1) h1⟩, B3⟩
    · obtain rfl : k = c.dl := by omega
      have e1 : c.ds.take c.dl = c.ds := List.take_of_length_le (by rw [HL1.out]; exact Nat.le_refl _)
      have e2 : d.ds.take c.dl = d.ds := List.take_of_length_le (by rw [HL2.out, HLL.out]; exact Nat.le_refl _)
      rw [e1, e2] at hsame
      have P3 := hidden hsame
      have k1_14 := hx1.c14
      have k2_14 := hx2.c14
      have HBL := hidden hbl
      clear hsame hbl e1 e2 hx1 hx2
      go_wp2_with fail
      refine Calls.mono (Par.rSame base base' _ _ _ _ _ _ _ _ _ (HC.out.later HBL.out).2.2.2.2.2 (HD.out.later HBL.out).2.2.2.2.2) ?_
      rintro e w2 ⟨t, rfl, ht, b2⟩
      have HT := hidden ht
      have HB2 := hidden (HBL.out.trans (b2.mono HBL.out.size))
      clear ht b2
      go_wp2
      go_ret
      refine ret_bool ?_ HB2.out
      rw [HV.out]
      exact ⟨fun h => ⟨HN.out, P0.out, P1.out, P3.out, P2.out, HT.out.1 h⟩, fun h => HT.out.2 h.2.2.2.2.2⟩
theorem rSame (base base' : Nat) (w : World) (c d : Ck) (hc : Lsts base w c) (hd : Lsts base' w d) :
    Calls Try.prog 18 #[cv c, cv d] w fun e w' => ∃ t : Bool, e = .returned (.bool t) ∧ (t = true ↔ val c = val d) ∧ Below w.heap.size w w' := by
  by_cases h : NumEq c d
  · exact rSame_eq base base' w c d hc hd h
  · refine (rSame_ne base base' w c d h).mono ?_
    rintro e w' ⟨rfl, hb⟩
    exact ⟨false, rfl, ⟨fun h => (by cases h), fun e => absurd ((val_iff c d).1 e).1 h⟩, hb⟩
end Go.Proofs.Ytifdkpifambhaaa.Chu
