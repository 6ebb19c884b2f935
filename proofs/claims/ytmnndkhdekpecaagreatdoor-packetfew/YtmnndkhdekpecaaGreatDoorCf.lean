/-
  Which chunks are alike, as the document tells it. The chunk that is known. All chunks of bytes: what they are; rows of chunks that grow. What All of package chunk tells; two lists of chunks.
  Conditions: as at each lemma.
-/
import Derived.Test.YtmnndkhdekpecaaGreatDoorCa
import Derived.Test.YtmnndkhdekpecaaGreatDoorCe
import Derived.Lib.SlBytesConst
import Derived.Test.YtmnndkhdekpecaaGreatDoorCd
namespace Go.Proofs.YtmnndkhdekpecaaGreatDoor.Chu
open Go.ChangeShapes Go.WideShapes Go.ChangeAt Go.RowKit
open Par (hidden Bytes Row Prm Prms cell_lt)
set_option linter.unusedVariables false
attribute [local go_sem ↓] execOp_ld execOp_bx execOp_st
attribute [local go_sem] run_box cc_0 cc_1 cc_2 cc_3 cc_4 cc_5 cc_6 cc_7 cc_8 cc_9 cc_10 cc_11 cc_12 cc_13 cc_14

set_option maxRecDepth 20000 in
theorem rSameGaps (base base' : Nat) (w : World) (a a' : Option Addr) (n m cap cap' : Nat) (gs hs : List (Int × Int)) (hp : Gaps base w a n gs) (hq : Gaps base' w a' m hs) :
    Calls Tryz.prog 78 #[.slice a n cap, .slice a' m cap'] w fun e w' => ∃ t : Bool, e = .returned (.bool t) ∧ (t = true ↔ gs = hs) ∧ Below w.heap.size w w' := by
  have HP := hidden hp
  have HQ := hidden hq
  have hpl := hp.1
  have hql := hq.1
  have hnl := hp.2.1
  have hml := hq.2.1
  clear hp hq
  by_cases hm : n = m
  · subst hm
    go_enter Tryz.func78, Tryz.ntmps78
    go_wp2_with fail
    go_loopw [5] (fun i wr => ∃ k : Nat, k ≤ n ∧ i = .int .i64 k ∧ gs.take k = hs.take k ∧ Below w.heap.size w wr) (fun i _ => n - (intOf i).toNat)
    case atStart => exact ⟨0, Nat.zero_le _, rfl, rfl, Below.refl _ _⟩
    case round =>
      obtain ⟨k, hk, rfl, hsame, hbl⟩ := hrel
      rcases Nat.lt_or_ge k n with hlt | hge
      · obtain ⟨b, off, s, e, rfl, hpk, hc1, hc2, _, _⟩ := (HP.out.later hbl).get hlt
        obtain ⟨b', off', s', e', rfl, hqk, hd1, hd2, _, _⟩ := (HQ.out.later hbl).get hlt
        have HPK := hidden hpk
        have HQK := hidden hqk
        have HSA := hidden hsame
        have HB := hidden hbl
        clear hpk hqk hsame hbl
        by_cases h1 : s = s'
        · subst h1
          by_cases h2 : e = e'
          · subst h2
            go_wp2
            go_quiet (fail)
            have B2 : Below w.heap.size w (wr.drewN nq) := Par.below_drewN HB.out nq
            go_wp2
            go_roundw
            case rel => exact ⟨k + 1, by omega, by go_num, take_step HPK.out HQK.out HSA.out rfl, B2⟩
            case measure => simp [intOf]; omega
          · go_wp2
            go_quiet (fail)
            have B2 : Below w.heap.size w (wr.drewN nq) := Par.below_drewN HB.out nq
            go_wp2
            go_ret
            exact ⟨false, rfl, ⟨fun h => (by cases h), fun h => absurd (take_at HPK.out HQK.out h) (by simp [h2])⟩, B2⟩
        · go_wp2
          go_quiet (fail)
          have B2 : Below w.heap.size w (wr.drewN nq) := Par.below_drewN HB.out nq
          go_wp2
          go_ret
          exact ⟨false, rfl, ⟨fun h => (by cases h), fun h => absurd (take_at HPK.out HQK.out h) (by simp [h1])⟩, B2⟩
      · obtain rfl : n = k := by omega
        rw [List.take_of_length_le (by omega), List.take_of_length_le (by omega)] at hsame
        have HSA := hidden hsame
        clear hsame
        go_wp2
        go_ret
        exact ⟨true, rfl, ⟨fun _ => HSA.out, fun _ => rfl⟩, hbl⟩
  · have hne : ¬ (n : Int) = (m : Int) := by omega
    go_enter Tryz.func78, Tryz.ntmps78
    go_wp2
    go_ret
    refine ⟨false, rfl, ⟨fun h => (by cases h), fun h => ?_⟩, Below.refl _ _⟩
    have := congrArg List.length h
    omega

set_option maxRecDepth 20000 in
theorem rSame_ne (base base' : Nat) (w : World) (c d : Ck) (hne : ¬ NumEq c d) :
    Calls Tryz.prog 46 #[cv c, cv d] w fun e w' => e = .returned (.bool false) ∧ Below w.heap.size w w' := by
  have hb := (below_box w c).trans ((below_box (w.alloc (.cells (cc c) 59)) d).mono (by simp))
  have b1 := (Bx.new w c).alloc (.cells (cc d) 59)
  have b2 := Bx.new (w.alloc (.cells (cc c) 59)) d
  simp only [World.size_alloc] at b2
  go_enter Tryz.func46, Tryz.ntmps46
  go_upto_region 1 with fail
  generalize (w.alloc (.cells (cc c) 59)).alloc (.cells (cc d) 59) = W at *
  refine wp_region_lit ?_
  refine Ord.first_ne (N := 129) (T := 33) (κ := .u8) (fun B => fa0 _ B) (fun B v h => ldK _ _ v h) (fun X Y => neK _ X Y _ _) b1.c0 b2.c0 (by exact ⟨rfl, rfl, fun p hp => by simp only [List.mem_cons, List.not_mem_nil, or_false] at hp; rcases hp with rfl | rfl <;> rfl⟩) rfl rfl rfl rfl rfl rfl rfl rfl rfl rfl rfl rfl rfl rfl rfl rfl rfl rfl rfl rfl fun a1 hF1 => ?_
  refine Ord.st_move hF1 (.inl rfl) rfl rfl rfl fun a2 hF2 => ?_
  refine Ord.link_or (T := 5) (κ := .u8) (fun B => fa1 _ B) (fun B v h => ld8 _ _ v h) (fun X Y => ne8 _ X Y _ _) b1.c1 b2.c1 hF2 rfl rfl rfl rfl rfl rfl rfl rfl rfl rfl rfl rfl rfl rfl rfl rfl rfl rfl rfl (by decide) rfl rfl rfl rfl rfl rfl fun a3 hF3 => ?_
  refine Ord.st_move hF3 (.inl rfl) rfl rfl rfl fun a4 hF4 => ?_
  refine Ord.link_or (T := 23) (κ := .u32) (fun B => fa2 _ B) (fun B v h => ld32 _ _ v h) (fun X Y => ne32 _ X Y _ _) b1.c2 b2.c2 hF4 rfl rfl rfl rfl rfl rfl rfl rfl rfl rfl rfl rfl rfl rfl rfl rfl rfl rfl rfl (by decide) rfl rfl rfl rfl rfl rfl fun a5 hF5 => ?_
  refine Ord.st_move hF5 (.inl rfl) rfl rfl rfl fun a6 hF6 => ?_
  refine Ord.link_or (T := 22) (κ := .u16) (fun B => fa3 _ B) (fun B v h => ld16 _ _ v h) (fun X Y => ne16 _ X Y _ _) b1.c3 b2.c3 hF6 rfl rfl rfl rfl rfl rfl rfl rfl rfl rfl rfl rfl rfl rfl rfl rfl rfl rfl rfl (by decide) rfl rfl rfl rfl rfl rfl fun a7 hF7 => ?_
  refine Ord.st_move hF7 (.inl rfl) rfl rfl rfl fun a8 hF8 => ?_
  refine Ord.link_or (T := 22) (κ := .u16) (fun B => fa4 _ B) (fun B v h => ld16 _ _ v h) (fun X Y => ne16 _ X Y _ _) b1.c4 b2.c4 hF8 rfl rfl rfl rfl rfl rfl rfl rfl rfl rfl rfl rfl rfl rfl rfl rfl rfl rfl rfl (by decide) rfl rfl rfl rfl rfl rfl fun a9 hF9 => ?_
  refine Ord.st_move hF9 (.inl rfl) rfl rfl rfl fun a10 hF10 => ?_
  refine Ord.link_or (T := 23) (κ := .u32) (fun B => fa5 _ B) (fun B v h => ld32 _ _ v h) (fun X Y => ne32 _ X Y _ _) b1.c5 b2.c5 hF10 rfl rfl rfl rfl rfl rfl rfl rfl rfl rfl rfl rfl rfl rfl rfl rfl rfl rfl rfl (by decide) rfl rfl rfl rfl rfl rfl fun a11 hF11 => ?_
  refine Ord.st_move hF11 (.inl rfl) rfl rfl rfl fun a12 hF12 => ?_
  refine Ord.link_or (T := 23) (κ := .u32) (fun B => fa6 _ B) (fun B v h => ld32 _ _ v h) (fun X Y => ne32 _ X Y _ _) b1.c6 b2.c6 hF12 rfl rfl rfl rfl rfl rfl rfl rfl rfl rfl rfl rfl rfl rfl rfl rfl rfl rfl rfl (by decide) rfl rfl rfl rfl rfl rfl fun a13 hF13 => ?_
  refine Ord.st_move hF13 (.inl rfl) rfl rfl rfl fun a14 hF14 => ?_
  refine Ord.link_or (T := 23) (κ := .u32) (fun B => fa7 _ B) (fun B v h => ld32 _ _ v h) (fun X Y => ne32 _ X Y _ _) b1.c7 b2.c7 hF14 rfl rfl rfl rfl rfl rfl rfl rfl rfl rfl rfl rfl rfl rfl rfl rfl rfl rfl rfl (by decide) rfl rfl rfl rfl rfl rfl fun a15 hF15 => ?_
  refine Ord.st_move hF15 (.inl rfl) rfl rfl rfl fun a16 hF16 => ?_
  refine Ord.link_or (T := 22) (κ := .u16) (fun B => fa8 _ B) (fun B v h => ld16 _ _ v h) (fun X Y => ne16 _ X Y _ _) b1.c8 b2.c8 hF16 rfl rfl rfl rfl rfl rfl rfl rfl rfl rfl rfl rfl rfl rfl rfl rfl rfl rfl rfl (by decide) rfl rfl rfl rfl rfl rfl fun a17 hF17 => ?_
  refine Ord.st_move hF17 (.inl rfl) rfl rfl rfl fun a18 hF18 => ?_
  refine Ord.link_or (T := 22) (κ := .u16) (fun B => fa9 _ B) (fun B v h => ld16 _ _ v h) (fun X Y => ne16 _ X Y _ _) b1.c9 b2.c9 hF18 rfl rfl rfl rfl rfl rfl rfl rfl rfl rfl rfl rfl rfl rfl rfl rfl rfl rfl rfl (by decide) rfl rfl rfl rfl rfl rfl fun a19 hF19 => ?_
  refine wpList_nil ?_
  rename_i hKK
  refine hKK _ _ ?_
  have h4 := hF19.at0
  have h5 : a19.eval (Operand.tmp 73) = .bool true := by
    rw [h4]
    congr 1
    by_cases hf : (c.kind != d.kind || c.flags != d.flags || c.tsn != d.tsn || c.stream != d.stream || c.ssn != d.ssn || c.proto != d.proto || c.tag != d.tag || c.win != d.win || c.out != d.out || c.inn != d.inn) = true
    · exact hf
    · exact absurd (by simpa [NumEq, and_assoc] using hf) hne
  refine wp_cond_true h5 ?_
  refine wp_seq ?_
  refine wp_region_lit ?_
  refine Ord.st_val hF19 rfl rfl rfl (v := .bool false) (w' := W) rfl fun az hFz => ?_
  refine wpList_nil ?_
  refine wp_ret ?_
  have h6 := hFz.at0
  have h7 : az.tmps[4]?.getD undef = .bool false := by simpa [Act.eval] using h6
  exact (show bodyPost Tryz.prog Tryz.f46 (fun e w' => e = .returned (.bool false) ∧ Below w.heap.size w w') .ret az W from bodyPost_ret (v := .bool false) (by simp [results, Tryz.results46, go_sem, h7]) hFz.2.1 ⟨rfl, hb⟩)

set_option maxHeartbeats 1000000 in
set_option maxRecDepth 20000 in
theorem rSame_eq (base base' : Nat) (w : World) (c d : Ck) (hc : Lsts base w c) (hd : Lsts base' w d) (hn : NumEq c d) :
    Calls Tryz.prog 46 #[cv c, cv d] w fun e w' => ∃ t : Bool, e = .returned (.bool t) ∧ (t = true ↔ val c = val d) ∧ Below w.heap.size w w' := by
  have hb := (below_box w c).trans ((below_box (w.alloc (.cells (cc c) 59)) d).mono (by simp))
  have b1 := (Bx.new w c).alloc (.cells (cc d) 59)
  have b2 := Bx.new (w.alloc (.cells (cc c) 59)) d
  simp only [World.size_alloc] at b2
  have HC := hidden hc
  have HD := hidden hd
  have H1 := hidden b1
  have H2 := hidden b2
  have HB := hidden hb
  have HV := hidden (val_iff c d)
  have HN := hidden hn
  obtain ⟨n0, n1, n2, n3, n4, n5, n6, n7, n8, n9⟩ := hn
  have n0 := bne_f n0
  have n1 := bne_f n1
  have n2 := bne_f n2
  have n3 := bne_f n3
  have n4 := bne_f n4
  have n5 := bne_f n5
  have n6 := bne_f n6
  have n7 := bne_f n7
  have n8 := bne_f n8
  have n9 := bne_f n9

  have x1_0 := b1.c0
  have x1_1 := b1.c1
  have x1_2 := b1.c2
  have x1_3 := b1.c3
  have x1_4 := b1.c4
  have x1_5 := b1.c5
  have x1_6 := b1.c6
  have x1_7 := b1.c7
  have x1_8 := b1.c8
  have x1_9 := b1.c9
  have x1_10 := b1.c10
  have x2_0 := b2.c0
  have x2_1 := b2.c1
  have x2_2 := b2.c2
  have x2_3 := b2.c3
  have x2_4 := b2.c4
  have x2_5 := b2.c5
  have x2_6 := b2.c6
  have x2_7 := b2.c7
  have x2_8 := b2.c8
  have x2_9 := b2.c9
  have x2_10 := b2.c10
  clear hb b1 b2 hc hd
  rename_i m0 m1 m2 m3 m4 m5 m6 m7 m8 m9
  clear m0 m1 m2 m3 m4 m5 m6 m7 m8 m9
  go_enter Tryz.func46, Tryz.ntmps46
  go_wp2_with fail
  clear x1_0 x1_1 x1_2 x1_3 x1_4 x1_5 x1_6 x1_7 x1_8 x1_9 x1_10 x2_0 x2_1 x2_2 x2_3 x2_4 x2_5 x2_6 x2_7 x2_8 x2_9 x2_10 n0 n1 n2 n3 n4 n5 n6 n7 n8 n9
  generalize (w.alloc (.cells (cc c) 59)).alloc (.cells (cc d) 59) = W at *
  generalize w.heap.size + 1 = B2 at *
  refine Calls.mono (rSameGaps base base' _ _ _ _ _ _ _ _ _ (HC.out.later HB.out).1 (HD.out.later HB.out).1) ?_
  rintro e w1 ⟨t, rfl, ht, b1⟩
  have HB0 := hidden (HB.out.trans (b1.mono HB.out.size))
  have H10 := hidden (H1.out.later b1)
  have H20 := hidden (H2.out.later b1)
  have T0 := hidden ht
  clear ht b1 HB H1 H2
  rename Hid (Below w.heap.size w w1) => HB
  rename Hid (Bx w1 w.heap.size c) => H1
  rename Hid (Bx w1 B2 d) => H2
  rcases t with _ | _
  · go_wp2
    go_ret
    exact ⟨false, rfl, ⟨fun h => (by cases h), fun h => by have h := HV.out.1 h; exact T0.out.2 h.2.1⟩, HB.out⟩
  have P0 := hidden (T0.out.1 rfl)
  clear T0
  have k1_11 := H1.out.c11
  have k2_11 := H2.out.c11
  go_wp2_with fail
  clear k1_11 k2_11
  refine Calls.mono (rSameGaps base base' _ _ _ _ _ _ _ _ _ (HC.out.later HB.out).2.1 (HD.out.later HB.out).2.1) ?_
  rintro e w1 ⟨t, rfl, ht, b1⟩
  have HB0 := hidden (HB.out.trans (b1.mono HB.out.size))
  have H10 := hidden (H1.out.later b1)
  have H20 := hidden (H2.out.later b1)
  have T1 := hidden ht
  clear ht b1 HB H1 H2
  rename Hid (Below w.heap.size w w1) => HB
  rename Hid (Bx w1 w.heap.size c) => H1
  rename Hid (Bx w1 B2 d) => H2
  rcases t with _ | _
  · go_wp2
    go_ret
    exact ⟨false, rfl, ⟨fun h => (by cases h), fun h => by have h := HV.out.1 h; exact T1.out.2 h.2.2.1⟩, HB.out⟩
  have P1 := hidden (T1.out.1 rfl)
  clear T1
  have k1_12 := H1.out.c12
  have k2_12 := H2.out.c12
  have hdl := HC.out.2.2.1.1
  have hdl' := HD.out.2.2.1.1
  have hdm := HC.out.2.2.1.2.1
  by_cases hl : c.dl = d.dl
  case neg =>
    have hne : ¬ (c.dl : Int) = (d.dl : Int) := by omega
    go_wp2
    go_ret
    refine ⟨false, rfl, ⟨fun h => (by cases h), fun h => ?_⟩, HB.out⟩
    have h := congrArg List.length (HV.out.1 h).2.2.2.1
    omega
  have hle : ((c.dl : Int) != (d.dl : Int)) = false := by simp; omega
  have k1_13 := H1.out.c13
  have k2_13 := H2.out.c13
  have hcv : (convert 27 9 (.slice c.ba c.bl c.bc)).run Tryz.prog w1 = .ok (.string (strOfNums c.bs)) w1 := Par.conv_row _ _ _ _ _ _ (HC.out.later HB.out).2.2.2.1
  have hcv' : (convert 27 9 (.slice d.ba d.bl d.bc)).run Tryz.prog w1 = .ok (.string (strOfNums d.bs)) w1 := Par.conv_row _ _ _ _ _ _ (HD.out.later HB.out).2.2.2.1
  obtain ⟨tt, ht1, ht2⟩ := Par.str_beq c.bs d.bs HC.out.2.2.2.1.2.1 HD.out.2.2.2.1.2.1
  have HT2 := hidden ht2
  clear ht2
  rcases tt with _ | _
  · go_wp2
    go_ret
    exact ⟨false, rfl, ⟨fun h => (by cases h), fun h => by have h := HV.out.1 h; simpa using HT2.out.2 h.2.2.2.2.1⟩, HB.out⟩
  have P2 := hidden (HT2.out.1 rfl)
  clear HT2
  have HLL := hidden hl
  have HL1 := hidden hdl
  have HL2 := hidden hdl'
  go_wp2_with fail
  clear k1_13 k2_13 hcv hcv' ht1 k1_12 k2_12 hl hle hdl hdl'
  go_loopw [5] (fun i wr => ∃ k : Nat, k ≤ c.dl ∧ i = .int .i64 k ∧ c.ds.take k = d.ds.take k ∧ Below w.heap.size w wr ∧ Bx wr w.heap.size c ∧ Bx wr B2 d) (fun i _ => c.dl - (intOf i).toNat)
  case atStart => exact ⟨0, Nat.zero_le _, rfl, rfl, HB.out, H1.out, H2.out⟩
  case round =>
    obtain ⟨k, hk, rfl, hsame, hbl, hx1, hx2⟩ := hrel
    have k1_12 := hx1.c12
    have k2_12 := hx2.c12
    rcases Nat.lt_or_ge k c.dl with hlt | hge
    · have hlt' : k < d.dl := by rw [← HLL.out]; exact hlt
      obtain ⟨b, off, s, ea, hpk, hc1, _⟩ := (HC.out.later hbl).2.2.1.get hlt
      obtain ⟨b', off', s', ea', hqk, hd1, _⟩ := (HD.out.later hbl).2.2.1.get hlt'
      rw [ea] at k1_12
      rw [ea'] at k2_12
      have HPK := hidden hpk
      have HQK := hidden hqk
      have HSA := hidden hsame
      have HBL := hidden hbl
      have HX1 := hidden hx1
      have HX2 := hidden hx2
      clear hpk hqk hsame hbl ea ea' hx1 hx2
      by_cases h1 : s = s'
      · subst h1
        go_wp2
        go_quiet (fail)
        have B3 : Below w.heap.size w (wr.drewN nq) := Par.below_drewN HBL.out nq
        go_wp2
        go_roundw
        case rel => exact ⟨k + 1, by omega, by go_num, take_step HPK.out HQK.out HSA.out rfl, B3, HX1.out, HX2.out⟩
        case measure => simp [intOf]; omega
      · have h2 := bne_t h1
        go_wp2
        go_quiet (fail)
        have B3 : Below w.heap.size w (wr.drewN nq) := Par.below_drewN HBL.out nq
        go_wp2
        go_ret
        exact ⟨false, rfl, ⟨fun h => (by cases h), fun h => absurd (take_at HPK.out HQK.out (HV.out.1 h).2.2.2.1) h1⟩, B3⟩
    · obtain rfl : k = c.dl := by omega
      have e1 : c.ds.take c.dl = c.ds := List.take_of_length_le (by rw [HL1.out]; exact Nat.le_refl _)
      have e2 : d.ds.take c.dl = d.ds := List.take_of_length_le (by rw [HL2.out, HLL.out]; exact Nat.le_refl _)
      rw [e1, e2] at hsame
      have P3 := hidden hsame
      have k1_14 := hx1.c14
      have k2_14 := hx2.c14
      have HBL := hidden hbl
      clear hsame hbl e1 e2 hx1 hx2
      go_wp2_with fail
      refine Calls.mono (Par.rSame base base' _ _ _ _ _ _ _ _ _ (HC.out.later HBL.out).2.2.2.2.2 (HD.out.later HBL.out).2.2.2.2.2) ?_
      rintro e w2 ⟨t, rfl, ht, b2⟩
      have HT := hidden ht
      have HB2 := hidden (HBL.out.trans (b2.mono HBL.out.size))
      clear ht b2
      go_wp2
      go_ret
      refine ret_bool ?_ HB2.out
      rw [HV.out]
      exact ⟨fun h => ⟨HN.out, P0.out, P1.out, P3.out, P2.out, HT.out.1 h⟩, fun h => HT.out.2 h.2.2.2.2.2⟩
theorem rSame (base base' : Nat) (w : World) (c d : Ck) (hc : Lsts base w c) (hd : Lsts base' w d) :
    Calls Tryz.prog 46 #[cv c, cv d] w fun e w' => ∃ t : Bool, e = .returned (.bool t) ∧ (t = true ↔ val c = val d) ∧ Below w.heap.size w w' := by
  by_cases h : NumEq c d
  · exact rSame_eq base base' w c d hc hd h
  · refine (rSame_ne base base' w c d h).mono ?_
    rintro e w' ⟨rfl, hb⟩
    exact ⟨false, rfl, ⟨fun h => (by cases h), fun e => absurd ((val_iff c d).1 e).1 h⟩, hb⟩
end Go.Proofs.YtmnndkhdekpecaaGreatDoor.Chu
namespace Go.Proofs.YtmnndkhdekpecaaGreatDoor.Chu
open Go.ChangeShapes Go.WideShapes Go.ChangeAt Go.RowKit
open Par (hidden Bytes Row Prm Prms cell_lt Cap cells_new cutA thrown form_of)
set_option linter.unusedVariables false

/-- a slice of one chunk -/
def bsl (v : Value) : Sem Value := Instr.buildSlice 24 1 #[(0, v)]
theorem execOp_bs (ρ : Operand → Value) (dst : Option Tmp) (x : Operand) (ty : TypeId) (pos : String) (after : Array Edge) (guard : Option (Nat × Bool)) :
    execOp ρ { dst := dst, op := .buildSlice 24 1 #[(0, x)], type := ty, pos := pos, after := after, guard := guard } = (do pure (.value (← bsl (ρ x)))) := by
  unfold execOp
  simp [bsl]
theorem run_bsl (c : Ck) (w : World) : (bsl (cv c)).run Tryz.prog w = .ok (.slice (some ⟨w.heap.size, 0, none⟩) 1 1) (w.alloc (.cells (cc c) 59)) := by kernel_rfl
attribute [local go_sem ↓] execOp_ld execOp_bx execOp_st execOp_bs
attribute [local go_sem] run_bsl

theorem cks_one {base : Nat} {w : World} {c : Ck} (h : Chk base w c) (hb : base ≤ w.heap.size) : Cks base (w.alloc (.cells (cc c) 59)) (some ⟨w.heap.size, 0, none⟩) 1 [c] := by
  refine ⟨rfl, by decide, ?_, .inr ⟨_, 0, rfl, hb, fun j u hj => ?_⟩⟩
  · intro d hd
    obtain rfl : d = c := by simpa using hd
    exact h.later (below_box w _)
  · have e : ccs [c] = (cc c).toList := by simp [ccs]
    rw [e] at hj
    rw [Nat.zero_add]
    exact bx_cell (Bx.new w c) (by simpa using hj)
/-- the known chunk, its bytes at block b -/
def kn (b : Nat) : Ck := ⟨0, 3, 1, 2, 3, 0, 0, 0, 0, 0, none, 0, 0, [], none, 0, 0, [], none, 0, 0, [], some ⟨b, 0, none⟩, 2, 2, [104, 105], none, 0, 0, []⟩
def knv : Ch := ⟨0, 3, 1, 2, 3, 0, 0, 0, 0, 0, [], [], [], [104, 105], []⟩
theorem kn_val (b : Nat) : val (kn b) = knv := rfl
theorem kn_chk (w : World) : Chk 0 (w.alloc (.cells #[.int .u8 104, .int .u8 105] 5 (2, 3))) (kn w.heap.size) := by
  refine ⟨by simp [Nums, kn], Gaps.nil _ _ _, Gaps.nil _ _ _, Fours.nil _ _ _, ⟨rfl, show ∀ n ∈ ([104, 105] : List Int), 0 ≤ n ∧ n < 256 by decide, by simp [kn], .inr ⟨_, _, rfl, Nat.zero_le _, fun j hj => ?_⟩⟩, (fun h => by cases h), Prms.nil _ _ _⟩
  have h1 := heap_alloc_new w (.cells #[.int .u8 104, .int .u8 105] 5 (2, 3))
  simp only [World.cell?, h1]
  have hj' : j < 2 := hj
  match j, hj' with
  | 0, _ => rfl
  | 1, _ => rfl
theorem kn_ok : chk knv = 0 := chk_of knv (show (3 : Int) < 8 by decide) (by simp [FieldOk, knv]) (by simp [knv]) (by simp [knv]) (by simp [knv]) rfl (show vlen knv ≤ 65531 by decide)
theorem kn_vok : VOk knv := by
  refine ⟨by decide, by decide, by decide, by decide, by decide, by decide, by decide, by decide, by decide, by decide, nums_nil, nums_nil, ds_nil, show ∀ n ∈ ([104, 105] : List Int), 0 ≤ n ∧ n < 256 by decide, ps_nil⟩
theorem kn_tot : tot [knv] = 20 := by decide
theorem kn_enc : encA [knv] = [0, 3, 0, 18, 0, 0, 0, 1, 0, 2, 0, 3, 0, 0, 0, 0, 104, 105, 0, 0] := by decide
theorem kn_str : strOfNums [0, 3, 0, 18, 0, 0, 0, 1, 0, 2, 0, 3, 0, 0, 0, 0, 104, 105, 0, 0] = ⟨#[0, 3, 0, 18, 0, 0, 0, 1, 0, 2, 0, 3, 0, 0, 0, 0, 104, 105, 0, 0]⟩ := by decide
theorem kn_code {e : Int} (h : EncR [knv] e) : e = 0 := by
  rcases h with ⟨k, v, hk, _, hne, _⟩ | ⟨_, ht, _⟩ | ⟨_, _, h⟩
  · have : v ∈ [knv] := List.mem_of_getElem? hk
    obtain rfl : v = knv := by simpa using this
    exact absurd kn_ok hne
  · rw [kn_tot] at ht
    omega
  · exact h
theorem kn_dec {e : Int} {y : Ch} {m : Nat} (h : Dec [0, 3, 0, 18, 0, 0, 0, 1, 0, 2, 0, 3, 0, 0, 0, 0, 104, 105, 0, 0] e y m) : e = 0 ∧ y = knv ∧ m = 20 := by
  have hb := back knv kn_vok kn_ok []
  have e1 : encC knv ++ [] = [0, 3, 0, 18, 0, 0, 0, 1, 0, 2, 0, 3, 0, 0, 0, 0, 104, 105, 0, 0] := by decide
  rw [e1] at hb
  obtain ⟨a, b⟩ := hb.one h
  obtain ⟨c, d⟩ := b rfl
  exact ⟨a.symm, c.symm, by rw [← d]; decide⟩
theorem kn_bytes : Bytes [0, 3, 0, 18, 0, 0, 0, 1, 0, 2, 0, 3, 0, 0, 0, 0, 104, 105, 0, 0] := by unfold Bytes; decide
theorem row_new (w : World) (zs : List Int) (h : Bytes zs) (hl : zs.length ≤ 140737488355328) : Row 0 (w.alloc (.cells (zs.map (Value.int .u8)).toArray 5)) (some ⟨w.heap.size, 0, none⟩) zs.length zs := by
  refine ⟨rfl, h, hl, .inr ⟨_, _, rfl, Nat.zero_le _, fun j hj => ?_⟩⟩
  have h1 := heap_alloc_new w (.cells (zs.map (Value.int .u8)).toArray 5)
  simp only [World.cell?, h1, Nat.zero_add]
  simp [List.getElem?_eq_getElem hj, List.getD_eq_getElem?_getD]
/-- a chunk is loaded, as an operation -/
theorem e_ldc {a : Act} {o : Oper} {w : World} {B : Nat} {c : Ck} (x : Operand) (hu : a.eval x = .pointer (some ⟨B, 0, none⟩)) (ho : o.op = .load 59 x) (hb : Bx w B c) : (execOp a.eval o).run Tryz.prog w = .ok (.value (cv c)) w := by
  unfold execOp
  rw [ho]
  simp only [hu]
  exact Ord.run_v hb.ld
end Go.Proofs.YtmnndkhdekpecaaGreatDoor.Chu
namespace Go.Proofs.YtmnndkhdekpecaaGreatDoor.Chu
open Go.ChangeShapes Go.WideShapes Go.ChangeAt Go.RowKit
open Par (hidden Bytes Row Prm Prms cell_lt)
set_option linter.unusedVariables false

/-- from p to q these chunks stand -/
def Rds (zs : List Int) : Nat → List Ch → Nat → Prop
  | p, [], q => p = q
  | p, y :: l, q => ∃ m, p < zs.length ∧ Dec (zs.drop p) 0 y m ∧ Rds zs (p + m) l q
theorem Rds.snoc {zs : List Int} {l : List Ch} : ∀ {p q m : Nat} {y : Ch}, Rds zs p l q → q < zs.length → Dec (zs.drop q) 0 y m → Rds zs p (l ++ [y]) (q + m) := by
  induction l with
  | nil => intro p q m y h hq hd; cases h; exact ⟨m, hq, hd, rfl⟩
  | cons x l ih =>
    intro p q m y h hq hd
    obtain ⟨k, h1, h2, h3⟩ := h
    exact ⟨k, h1, h2, ih h3 hq hd⟩
/-- there is none behind -/
def Stop (zs : List Int) (q : Nat) : Prop := zs.length ≤ q ∨ ∃ e y m, e ≠ 0 ∧ Dec (zs.drop q) e y m
theorem Stop.not {zs : List Int} {q m : Nat} {y : Ch} (h : Stop zs q) (hq : q < zs.length) (hd : Dec (zs.drop q) 0 y m) : False := by
  rcases h with h | ⟨e, y', m', he, h⟩
  · omega
  · exact he (hd.one h).1.symm
theorem Rds.one {zs : List Int} {l : List Ch} : ∀ {p q q' : Nat} {l' : List Ch}, Rds zs p l q → Rds zs p l' q' → Stop zs q → Stop zs q' → l = l' ∧ q = q' := by
  induction l with
  | nil =>
    intro p q q' l' h h' s s'
    cases h
    cases l' with
    | nil => exact ⟨rfl, h'⟩
    | cons y l' =>
      obtain ⟨m, h1, h2, _⟩ := h'
      exact (s.not h1 h2).elim
  | cons x l ih =>
    intro p q q' l' h h' s s'
    obtain ⟨m, h1, h2, h3⟩ := h
    cases l' with
    | nil =>
      cases h'
      exact (s'.not h1 h2).elim
    | cons y l' =>
      obtain ⟨m', g1, g2, g3⟩ := h'
      obtain ⟨_, e⟩ := h2.one g2
      obtain ⟨rfl, rfl⟩ := e rfl
      obtain ⟨rfl, rfl⟩ := ih h3 g3 s s'
      exact ⟨rfl, rfl⟩
/-- what All tells: the chunks, the place, the error -/
def AllOut (zs : List Int) (l : List Ch) (p : Nat) (e : Int) : Prop :=
  (e = 0 ∧ p = 0 ∧ ∃ q, Rds zs 0 l q ∧ zs.length ≤ q) ∨ (e ≠ 0 ∧ l = [] ∧ ∃ l' y m, Rds zs 0 l' p ∧ p < zs.length ∧ Dec (zs.drop p) e y m)
theorem AllOut.one {zs : List Int} {l l' : List Ch} {p p' : Nat} {e e' : Int} (h : AllOut zs l p e) (h' : AllOut zs l' p' e') : l = l' ∧ p = p' ∧ e = e' := by
  rcases h with ⟨rfl, rfl, q, h1, h2⟩ | ⟨he, rfl, l1, y, m, h1, h2, h3⟩ <;> rcases h' with ⟨rfl, rfl, q', g1, g2⟩ | ⟨he', rfl, l2, y', m', g1, g2, g3⟩
  · obtain ⟨rfl, _⟩ := h1.one g1 (.inl h2) (.inl g2)
    exact ⟨rfl, rfl, rfl⟩
  · obtain ⟨_, rfl⟩ := h1.one g1 (.inl h2) (.inr ⟨_, _, _, he', g3⟩)
    omega
  · obtain ⟨_, rfl⟩ := h1.one g1 (.inr ⟨_, _, _, he, h3⟩) (.inl g2)
    omega
  · obtain ⟨_, rfl⟩ := h1.one g1 (.inr ⟨_, _, _, he, h3⟩) (.inr ⟨_, _, _, he', g3⟩)
    exact ⟨rfl, rfl, (h3.one g3).1⟩
theorem clen_pos (v : Ch) : 4 ≤ clen v := by
  have := Par.fill4_le (4 + vlen v)
  unfold clen
  omega
/-- chunks that may be are read from their bytes -/
theorem rds_enc : ∀ (vs : List Ch) (pre : List Int), (∀ v ∈ vs, VOk v) → (∀ v ∈ vs, chk v = 0) → Rds (pre ++ encA vs) pre.length vs (pre ++ encA vs).length
  | [], pre, _, _ => by simp [Rds, encA]
  | v :: vs, pre, h1, h2 => by
    have hv := h1 v (List.mem_cons_self ..)
    have hk := h2 v (List.mem_cons_self ..)
    have e : encA (v :: vs) = encC v ++ encA vs := by simp [encA]
    have hl := encC_len v (chk_ok hk).2.2.1
    have hp := clen_pos v
    have ih := rds_enc vs (pre ++ encC v) (fun u hu => h1 u (List.mem_cons_of_mem _ hu)) (fun u hu => h2 u (List.mem_cons_of_mem _ hu))
    rw [List.append_assoc, ← e, List.length_append, hl] at ih
    refine ⟨clen v, ?_, ?_, ih⟩
    · rw [e, List.length_append, List.length_append, hl]
      omega
    · rw [List.drop_left, e]
      exact back v hv hk (encA vs)
/-- a list lies elsewhere -/
def Av (row : Option Nat) (a : Option Addr) (n : Nat) : Prop := n = 0 ∨ ∀ b off s, a = some ⟨b, off, s⟩ → some b ≠ row
/-- all that a chunk holds lies elsewhere -/
def AvC (row : Option Nat) (c : Ck) : Prop := Av row c.ga c.gl ∧ Av row c.na c.nl ∧ Av row c.da c.dl ∧ Av row c.ba c.bl ∧ Av row c.pa c.pl ∧ ∀ p ∈ c.ps, Av row p.2.1 p.2.2.1
theorem av_lies {base n : Nat} {w : World} {a : Option Addr} {xs : List Value} {row : Option Nat} (h : Lies base w a xs) (hx : xs = [] → n = 0) (hr : ∀ b u off, base ≤ b → w.cell? ⟨b, off, none⟩ = some u → some b ≠ row) : Av row a n := by
  rcases h with h0 | ⟨b, off, rfl, hb, hc⟩
  · exact .inl (hx h0)
  · cases xs with
    | nil => exact .inl (hx rfl)
    | cons x xs =>
      refine .inr (fun b' off' s e => ?_)
      cases e
      exact hr b x (off + 0) hb (hc 0 x rfl)
theorem av_row {base n : Nat} {w : World} {a : Option Addr} {zs : List Int} {row : Option Nat} (h : Row base w a n zs) (hr : ∀ b u off, base ≤ b → w.cell? ⟨b, off, none⟩ = some u → some b ≠ row) : Av row a n := by
  rcases Nat.eq_zero_or_pos n with h0 | hp
  · exact .inl h0
  · obtain ⟨b, off, rfl, hb, hc⟩ := h.2.2.2.resolve_left (by omega)
    refine .inr (fun b' off' s e => ?_)
    cases e
    exact hr b _ (off + 0) hb (hc 0 hp)
theorem avC_of {base : Nat} {w : World} {c : Ck} {row : Option Nat} (h : Lsts base w c) (hr : ∀ b u off, base ≤ b → w.cell? ⟨b, off, none⟩ = some u → some b ≠ row) : AvC row c := by
  obtain ⟨l1, l2, l3, l4, _, l5⟩ := h
  refine ⟨av_lies l1.2.2.2 (fun e => ?_) hr, av_lies l2.2.2.2 (fun e => ?_) hr, av_lies l3.2.2.2 (fun e => ?_) hr, av_row l4 hr, ?_, fun p hp => av_row (l5.2.2.1 p hp).2.1 hr⟩
  · have := gcs_len c.gs
    rw [e] at this
    have h2 := l1.1
    rw [List.length_nil] at this
    omega
  · have := gcs_len c.ns
    rw [e] at this
    have h2 := l2.1
    rw [List.length_nil] at this
    omega
  · have := congrArg List.length e
    simp [dcs] at this
    have h2 := l3.1
    rw [this] at h2
    simpa using h2.symm
  · rcases l5.2.2.2 with h0 | ⟨b, off, e, hb, hc⟩
    · exact .inl h0
    · rcases Nat.eq_zero_or_pos c.pl with h0 | hp
      · exact .inl h0
      · refine .inr (fun b' off' s e' => ?_)
        rw [e] at e'
        cases e'
        have hl := l5.1
        exact hr b _ _ hb (hc 0 _ (List.getElem?_eq_getElem (by omega))).1
theorem cell_gr {w w' : World} {row : Option Nat} {b off : Nat} {u : Value} (h : w.cell? ⟨b, off, none⟩ = some u) (hg : w.grownBy w' row) (hne : some b ≠ row) : w'.cell? ⟨b, off, none⟩ = some u := by
  obtain ⟨_, _, _, _, a5⟩ := hg
  have e := a5 b (cell_lt h) hne
  simp only [World.cell?, e] at *
  exact h
theorem lies_gr {base n : Nat} {w w' : World} {a : Option Addr} {xs : List Value} {row : Option Nat} (h : Lies base w a xs) (hx : n = 0 → xs = []) (hav : Av row a n) (hg : w.grownBy w' row) : Lies base w' a xs := by
  rcases h with h0 | ⟨b, off, rfl, hb, hc⟩
  · exact .inl h0
  · rcases hav with h0 | h
    · exact .inl (hx h0)
    · exact .inr ⟨b, off, rfl, hb, fun j u hj => cell_gr (hc j u hj) hg (h b off none rfl)⟩
theorem row_gr {base n : Nat} {w w' : World} {a : Option Addr} {zs : List Int} {row : Option Nat} (h : Row base w a n zs) (hav : Av row a n) (hg : w.grownBy w' row) : Row base w' a n zs := by
  obtain ⟨h1, h2, h3, h4⟩ := h
  refine ⟨h1, h2, h3, ?_⟩
  rcases h4 with h0 | ⟨b, off, rfl, hb, hc⟩
  · exact .inl h0
  · rcases hav with h0 | h
    · exact .inl h0
    · exact .inr ⟨b, off, rfl, hb, fun j hj => cell_gr (hc j hj) hg (h b off none rfl)⟩
theorem lsts_gr {base : Nat} {w w' : World} {c : Ck} {row : Option Nat} (h : Lsts base w c) (hav : AvC row c) (hg : w.grownBy w' row) : Lsts base w' c := by
  obtain ⟨l1, l2, l3, l4, l4', l5⟩ := h
  obtain ⟨a1, a2, a3, a4, a5, a6⟩ := hav
  refine ⟨⟨l1.1, l1.2.1, l1.2.2.1, lies_gr l1.2.2.2 (fun e => ?_) a1 hg⟩, ⟨l2.1, l2.2.1, l2.2.2.1, lies_gr l2.2.2.2 (fun e => ?_) a2 hg⟩, ⟨l3.1, l3.2.1, l3.2.2.1, lies_gr l3.2.2.2 (fun e => ?_) a3 hg⟩, row_gr l4 a4 hg, l4', l5.1, l5.2.1, fun p hp => ⟨(l5.2.2.1 p hp).1, row_gr (l5.2.2.1 p hp).2.1 (a6 p hp) hg, (l5.2.2.1 p hp).2.2⟩, ?_⟩
  · have h2 := l1.1
    rw [e] at h2
    rw [nil_of_len h2]
    rfl
  · have h2 := l2.1
    rw [e] at h2
    rw [nil_of_len h2]
    rfl
  · have h2 := l3.1
    rw [e] at h2
    rw [nil_of_len h2]
    rfl
  · rcases l5.2.2.2 with h0 | ⟨b, off, e, hb, hc⟩
    · exact .inl h0
    · rcases a5 with h0 | h
      · exact .inl h0
      · exact .inr ⟨b, off, e, hb, fun j p hj => ⟨cell_gr (hc j p hj).1 hg (h b off none e), cell_gr (hc j p hj).2 hg (h b off none e)⟩⟩
section
variable {P : Program} {w : World}
/-- where an append leaves the row: where it was, or in the next block -/
theorem append_where {base n m c : Nat} {t ty e : TypeId} {i : TypeInfo} {z : Value} (ht : P.underlying t = some (.slice e)) (hi : P.info? e = some i) (hz : i.zero = some z) {v : Value} {xs : List Value} (hown : w.ownsRow base e i.size v n xs)
    {ad : Addr} {news : List Value} (hl : news.length = m * i.size) (hnews : ∀ j u, news[j]? = some u → w.cell? (ad.add j) = some u) (h1 : ∀ u ∈ news, u.oneCell' = true) (hm : 0 < m) (h63 : n + m ≤ maxLen) (hbytes : (n + m) * i.bytes ≤ 140737488355328)
    {v' : Value} {w' : World} (hr : (Builtin.append_ #[t, t] ty #[v, .slice (some ad) m c]).run P w = .ok v' w') : v'.ownBlock = v.ownBlock ∨ v'.ownBlock = some w.heap.size := by
  have h63' : n + m ≤ 9223372036854775807 := by simp only [maxLen] at h63; omega
  rcases hown.2 with ⟨rfl, rfl⟩ | ⟨g, cap, cur, rfl, hbg, hg, hnc, hcm, hcs, htake⟩
  · have hb := hbytes
    rw [Nat.zero_add] at hb
    rw [run_append_nil (P := P) w t ty e i z ht hi hz ad m c news hl hnews hm (by omega) (by omega)] at hr
    cases hr
    exact .inr rfl
  · by_cases hroom : n + m ≤ cap
    · rw [run_append_room (P := P) w t ty e i ht hi g n cap cur hg ad m c news hl hnews h1 hroom (by rw [hl, hcs, ← Nat.add_mul]; exact Nat.mul_le_mul_right _ hroom)] at hr
      cases hr
      exact .inl rfl
    · rw [run_append_grow (P := P) w t ty e i z ht hi hz ⟨g, 0, none⟩ n cap xs hown.1 (hown.cells (g := g) rfl) ad m c news hl hnews (by omega) (by omega) (growslice_fits (by omega) hbytes)] at hr
      cases hr
      exact .inr rfl
theorem wpList_append_at {ops : Array Oper} {rest : List Oper} {o : Oper} {a : Act} {Q : Exit → Act → World → Prop} (hgd : o.guard = none) (s x : Operand) (t : TypeId)
    (ho : o.op = .call { callee := .builtin .append, args := #[s, x], argTypes := #[t, t] })
    (base : Nat) (e : TypeId) (i : TypeInfo) (z : Value) (ht : P.underlying t = some (.slice e)) (hi : P.info? e = some i) (hz : i.zero = some z) (hzs : z.cells.size = i.size) (hsz : 0 < i.size)
    (v : Value) (n : Nat) (xs : List Value) (hs : a.eval s = v) (hown : w.ownsRow base e i.size v n xs)
    (ad : Addr) (m c : Nat) (news : List Value) (hx : a.eval x = .slice (some ad) m c) (hl : news.length = m * i.size) (hnews : ∀ j u, news[j]? = some u → w.cell? (ad.add j) = some u) (h1 : ∀ u ∈ news, u.oneCell' = true)
    (hm : 0 < m) (h63 : n + m ≤ maxLen) (hbytes : (n + m) * i.bytes ≤ 140737488355328) (hbase : base ≤ w.heap.size)
    (h : ∀ v' w', w'.ownsRow base e i.size v' (n + m) (xs ++ news) → w.grownBy w' v.ownBlock → (v'.ownBlock = v.ownBlock ∨ v'.ownBlock = some w.heap.size) → wpList P ops Q rest (a.put o.dst v') w') : wpList P ops Q (o :: rest) a w := by
  obtain ⟨v', w', hr, h2, h3, _⟩ := run_append_own (P := P) w base t o.type e i z i.size i.bytes ht hi hz rfl rfl hzs hsz v n xs hown ad m c news hl hnews h1 h63 hbytes hbase
  have h5 := append_where (ty := o.type) ht hi hz hown hl hnews h1 hm h63 hbytes hr
  refine wpList_plain hgd fun K hK => ?_
  unfold Oper.wp execOp
  simp only [ho, resolve, invoke, builtin, Sem.run_bind, Sem.run_pure, Result.andThen_ok, List.map_toArray, List.map_cons, List.map_nil, hs, hx, hr]
  exact hK _ _ (h v' w' h2 h3 h5)
end
end Go.Proofs.YtmnndkhdekpecaaGreatDoor.Chu
namespace Go.Proofs.YtmnndkhdekpecaaGreatDoor.Chu
open Go.ChangeShapes Go.WideShapes Go.ChangeAt Go.RowKit
open Par (hidden Bytes Row Prm Prms cell_lt form_of cells_new)
set_option linter.unusedVariables false
attribute [local go_sem ↓] execOp_ld execOp_bx execOp_st execOp_bs
attribute [local go_sem] run_box run_bsl

theorem infoC3 : (Tryz.prog.info? 59).map (fun i => (i.zero, i.size, i.bytes)) = some (some (cv (zck 0)), 15, 152) := by kernel_rfl
/-- the chunks so far -/
def Lc (w wr : World) (v : Value) (k : Nat) (l : List Ck) : Prop := wr.ownsRow w.heap.size 59 15 v k (ccs l) ∧ l.length = k ∧ (∀ c ∈ l, Nums c ∧ Lsts w.heap.size wr c ∧ AvC v.ownBlock c) ∧ Below w.heap.size w wr
theorem Lc.nil (w : World) : Lc w w (.slice none 0 0) 0 [] := ⟨World.ownsRow_nil _ _ _ _, rfl, (fun c hc => by cases hc), Below.refl _ _⟩
theorem Lc.later {w wr w' : World} {v : Value} {k : Nat} {l : List Ck} (h : Lc w wr v k l) (hb : Below wr.heap.size wr w') : Lc w w' v k l := by
  refine ⟨h.1.kept (gr_below hb none) ?_, h.2.1, fun c hc => ⟨(h.2.2.1 c hc).1, (h.2.2.1 c hc).2.1.later hb, (h.2.2.1 c hc).2.2⟩, h.2.2.2.trans (hb.mono h.2.2.2.size)⟩
  rcases hv : v.ownBlock with _ | g
  · exact .inl rfl
  · exact .inr (fun e => by cases e)
/-- one chunk more -/
theorem Lc.more {w wr w1 w3 : World} {v v3 : Value} {k : Nat} {l : List Ck} {c : Ck} (h : Lc w wr v k l) (hb : Below wr.heap.size wr w1) (hc : Chk wr.heap.size w1 c) (ho : w3.ownsRow w.heap.size 59 15 v3 (k + 1) (ccs l ++ (cc c).toList)) (hg : w1.grownBy w3 v.ownBlock)
    (hw : v3.ownBlock = v.ownBlock ∨ v3.ownBlock = some w1.heap.size) : Lc w w3 v3 (k + 1) (l ++ [c]) := by
  have h1 := h.later hb
  have hs := h.2.2.2.size
  have av : ∀ d, Lsts w.heap.size w1 d → AvC v.ownBlock d → AvC v3.ownBlock d := by
    intro d hd hv
    rcases hw with e | e
    · rw [e]; exact hv
    · rw [e]
      refine avC_of hd (fun b u off _ hcell e => ?_)
      cases e
      exact absurd (cell_lt hcell) (Nat.lt_irrefl _)
  have avc : AvC v.ownBlock c := avC_of hc.2 (fun b u off hbb _ e => by
    have := (h.1.lt b e.symm).2
    omega)
  refine ⟨?_, by rw [List.length_append, h.2.1]; rfl, fun d hd => ?_, ?_⟩
  · have e : ccs (l ++ [c]) = ccs l ++ (cc c).toList := by simp [ccs]
    rw [e]
    exact ho
  · rcases List.mem_append.1 hd with hd | hd
    · obtain ⟨q1, q2, q3⟩ := h1.2.2.1 d hd
      exact ⟨q1, lsts_gr q2 q3 hg, av d q2 q3⟩
    · obtain rfl : d = c := by simpa using hd
      have q2 : Lsts w.heap.size w1 d := hc.2.mono hs
      exact ⟨hc.1, lsts_gr q2 avc hg, av d q2 avc⟩
  · exact h1.2.2.2.grown hg h1.2.2.2.size (fun g e => (h.1.lt g e).1)
theorem Lc.cks {w wr : World} {v : Value} {k : Nat} {l : List Ck} (h : Lc w wr v k l) (hk : k ≤ 1000000000000) : ∃ a cap, v = .slice a k cap ∧ Cks w.heap.size wr a k l := by
  obtain ⟨a, cap, rfl, hl, _⟩ := lies_own h.1
  exact ⟨a, cap, rfl, h.2.1, hk, fun c hc => ⟨(h.2.2.1 c hc).1, (h.2.2.1 c hc).2.1⟩, hl⟩
theorem cc_one (c : Ck) : ∀ u ∈ (cc c).toList, u.oneCell' = true := by simp [cc, Value.oneCell']
theorem cells_cc (w : World) (c : Ck) : ∀ j u, (cc c).toList[j]? = some u → (w.alloc (.cells (cc c) 59)).cell? ((⟨w.heap.size, 0, none⟩ : Addr).add j) = some u := by
  intro j u hj
  rw [Go.WideShapes.add_plain, Nat.zero_add]
  exact bx_cell (Bx.new w c) (by simpa using hj)
theorem rds_le {zs : List Int} (hz : Bytes zs) {l : List Ch} : ∀ {p q : Nat}, p ≤ zs.length → Rds zs p l q → p + 4 * l.length ≤ q ∧ q ≤ zs.length := by
  induction l with
  | nil => intro p q hp h; cases h; exact ⟨by simp, hp⟩
  | cons y l ih =>
    intro p q hp h
    obtain ⟨m, h1, h2, h3⟩ := h
    obtain ⟨_, _, r3, r4⟩ := read_ok (zs.drop p) (fun x hx => hz x (List.mem_of_mem_drop hx)) y m h2
    rw [List.length_drop] at r4
    obtain ⟨i1, i2⟩ := ih (p := p + m) (by omega) h3
    rw [List.length_cons]
    exact ⟨by omega, i2⟩
theorem drop_row {base : Nat} {w : World} {b off len q : Nat} {zs : List Int} (h : Row base w (some ⟨b, off, none⟩) len zs) (hq : q < len) : Row base w (some ⟨b, off + q, none⟩) (len - q) (zs.drop q) := h.drop q (by omega)
set_option maxRecDepth 20000 in
set_option maxHeartbeats 1000000 in
theorem all (base : Nat) (w : World) (a : Option Addr) (len cap : Nat) (zs : List Int) (hr : Row base w a len zs) (hlc : len ≤ cap) (hlen : len ≤ 1048576) :
    Calls Tryz.prog 88 #[.slice a len cap] w fun e w' => ∃ pa n pcap l p er, e = .returned (.tuple #[.slice pa n pcap, .int .i64 ((p : Nat) : Int), .int .i64 er]) ∧ Cks w.heap.size w' pa n l ∧ AllOut zs (l.map val) p er ∧ Below w.heap.size w w' := by
  obtain ⟨i0, hi, hz0, hz1, hz2⟩ := info_parts infoC3
  have hzl := hr.1
  have HBY := hidden hr.2.1
  have HR := hidden hr
  clear hr
  go_enter Tryz.func88, Tryz.ntmps88
  go_wp2_with fail
  go_loopw [5, 6] (fun v i wr => ∃ k q l, i = .int .i64 ((q : Nat) : Int) ∧ Lc w wr v k l ∧ Rds zs 0 (l.map val) q) (fun _ i _ => len - (intOf i).toNat)
  case atStart => exact ⟨0, 0, [], rfl, Lc.nil w, rfl⟩
  case round =>
    obtain ⟨k, q, l, rfl, hL, hRd⟩ := hrel
    obtain ⟨q1, q2⟩ := rds_le HBY.out (Nat.zero_le _) hRd
    rw [List.length_map, hL.2.1] at q1
    obtain ⟨va, vc, rfl⟩ := form_of hL.1
    rcases Nat.lt_or_ge q len with hlt | hge
    · obtain ⟨b, off, rfl, _, _⟩ := HR.out.2.2.2.resolve_left (by omega)
      have DE := hidden (decode base wr (some ⟨b, off + q, none⟩) (len - q) (cap - q) (zs.drop q) (drop_row (HR.out.later hL.2.2.2) hlt) (by omega) (fun h => by cases h))
      have HL := hidden hL
      have HRD := hidden hRd
      have i1 : (q : Int) < (len : Int) := by omega
      have i2 : (q : Int) ≤ (cap : Int) := by omega
      have i3 : ¬ cap = q := by omega
      have i4 : ¬ q = cap := by omega
      have i5 : (q : Int) ≤ (len : Int) := by omega
      clear hL hRd
      go_wp2_with fail
      refine Calls.mono DE.out ?_
      rintro e w1 ⟨c, m, er, rfl, ⟨y, hD, hv⟩, hbad, hC, b1⟩
      obtain ⟨W, hS, hbx, hbw⟩ := newvar w1 c
      have b2 := b1.trans (hbw.mono b1.size)
      have HC := hidden (hC.later hbw)
      have HD := hidden hD
      have HV := hidden hv
      have HBAD := hidden hbad
      have HB2 := hidden b2
      have HX := hidden hbx
      clear hC hD hv hbad b1 b2 hbx hbw DE
      by_cases he : er = 0
      · subst he
        have HVV := hidden (HV.out rfl)
        have l1 := HX.out.ld
        obtain ⟨r1, r2, r3, r4⟩ := read_ok (zs.drop q) (fun x hx => HBY.out x (List.mem_of_mem_drop hx)) y m HD.out
        rw [List.length_drop] at r4
        have HB3 := hidden (HB2.out.trans ((below_box W c).mono HB2.out.size))
        have hs3 := (HL.out.2.2.2.trans (HB3.out.mono HL.out.2.2.2.size)).size
        have HOW := hidden ((HL.out.later HB3.out).1)
        clear r1 r2
        go_wp2_with (at_builtin; refine wpList_append_at rfl _ _ 24 rfl w.heap.size 59 i0 (cv (zck 0)) Tryz.underlying24 hi hz0 (by rw [hz1]; rfl) (by rw [hz1]; decide) _ _ _ rfl (by rw [hz1]; exact HOW.out) ⟨W.heap.size, 0, none⟩ 1 1 (cc c).toList rfl (by rw [hz1]; rfl) (cells_cc W c) (cc_one c) (by decide) ?c3 ?c4 ?c5 ?_)
        case c3 => unfold maxLen; omega
        case c4 => rw [hz2]; omega
        case c5 => exact hs3
        intro v3 w3 ho3 hg3 hw3
        have HM := hidden (HL.out.more HB3.out (HC.out.later (below_box W c)) ho3 hg3 (by rw [World.size_alloc]; exact hw3))
        clear ho3 hg3 hw3 HOW
        go_wp2
        go_roundw
        case rel => exact ⟨k + 1, q + m, l ++ [c], by go_num, HM.out, by rw [List.map_append]; exact HRD.out.snoc (by omega) (by rw [HVV.out]; exact HD.out)⟩
        case measure => simp [intOf]; omega
      · have hne := bne_t he
        have HB3 := hidden (HL.out.2.2.2.trans (HB2.out.mono HL.out.2.2.2.size))
        have HE := hidden he
        clear he
        go_wp2
        go_ret3
        exact ⟨none, 0, 0, [], q, er, rfl, Cks.nil _ _ _, .inr ⟨HE.out, rfl, _, y, m, HRD.out, by omega, HD.out⟩, HB3.out⟩
    · obtain ⟨pa, pcap, e, hck⟩ := hL.cks (by omega)
      cases e
      have HCK := hidden hck
      have HO := hidden (show AllOut zs (l.map val) 0 0 from .inl ⟨rfl, rfl, q, hRd, by omega⟩)
      have HB := hidden hL.2.2.2
      clear hck hL hRd
      go_wp2
      go_ret3
      exact ⟨_, _, _, l, 0, 0, rfl, HCK.out, HO.out, HB.out⟩
theorem vals_step {ps qs : List Ck} {k : Nat} {p q : Ck} (hp : ps[k]? = some p) (hq : qs[k]? = some q) (h : (ps.take k).map val = (qs.take k).map val) (e : val p = val q) : (ps.take (k + 1)).map val = (qs.take (k + 1)).map val := by
  rw [List.take_add_one, List.take_add_one, hp, hq, List.map_append, List.map_append, h]
  simp [e]
theorem vals_at {ps qs : List Ck} {k : Nat} {p q : Ck} (hp : ps[k]? = some p) (hq : qs[k]? = some q) (h : ps.map val = qs.map val) : val p = val q := by
  have e := congrArg (fun l => l[k]?) h
  simp only [List.getElem?_map, hp, hq, Option.map_some, Option.some.injEq] at e
  exact e
/-- the bytes from a chunk on -/
theorem encA_drop {vs : List Ch} {i : Nat} {v : Ch} (h : ∀ u ∈ vs, chk u = 0) (hv : vs[i]? = some v) : (encA vs).drop (tot (vs.take i)) = encC v ++ encA (vs.drop (i + 1)) := by
  have hl := encA_len (vs := vs.take i) (fun u hu => h u (List.mem_of_mem_take hu))
  have hi := (List.getElem?_eq_some_iff.1 hv)
  have e : vs = vs.take i ++ (v :: vs.drop (i + 1)) := by
    obtain ⟨h1, h2⟩ := hi
    rw [← h2, List.getElem_cons_drop, List.take_append_drop]
  have e2 : encA vs = encA (vs.take i) ++ (encC v ++ encA (vs.drop (i + 1))) := by
    rw [show encA vs = encA (vs.take i ++ (v :: vs.drop (i + 1))) from congrArg encA e]
    simp [encA]
  rw [e2, ← hl, List.drop_left]
theorem tot_lt {vs : List Ch} {i : Nat} {v : Ch} (hv : vs[i]? = some v) : tot (vs.take i) + clen v ≤ tot vs := by
  rw [← tot_snoc hv]
  exact tot_take vs (i + 1)
end Go.Proofs.YtmnndkhdekpecaaGreatDoor.Chu
