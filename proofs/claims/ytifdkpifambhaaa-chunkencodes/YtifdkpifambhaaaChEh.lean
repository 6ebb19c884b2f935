/-
  The document's writer: the bytes of a list of chunks.
  Conditions: the numbers lie within their kinds, the cells hold them.
-/
import Derived.Test.YtifdkpifambhaaaChEe
import Derived.Test.YtifdkpifambhaaaChZ
import Derived.Test.YtifdkpifambhaaaChEg
import Derived.Test.YtifdkpifambhaaaChJ
namespace Go.Proofs.Ytifdkpifambhaaa.Chu
open Go.ChangeShapes Go.WideShapes Go.ChangeAt Go.RowKit
open Par (hidden Bytes Row Prm Prms cell_lt Cap cells_new cutA thrown form_of)
set_option linter.unusedVariables false
set_option linter.unusedSimpArgs false
attribute [local go_sem ↓] execOp_ld execOp_bx execOp_st
attribute [local go_sem] run_box

theorem rCsize (base : Nat) (c : Ck) (w : World) (hc : Chk base w c) (hbm : c.bl ≤ 140737488351232) : Calls Try.prog 15 #[cv c] w fun e w' => e = .returned (.int .i64 (csize (val c) : Nat)) ∧ Below w.heap.size w w' := by
  have hl := (Bx.new w c).ld
  have hb := below_box w c
  have hv := vlen_le base c w hc
  have CK := hidden (rCheck base c _ (hc.later hb) hbm)
  have H1 := hidden (Bx.new w c)
  have HC := hidden (hc.later hb)
  have HB := hidden hb
  clear hb hc
  go_enter Try.func15, Try.ntmps15
  go_wp2_with fail
  refine Calls.mono CK.out ?_
  rintro e w1 ⟨rfl, b1⟩
  have HB1 := hidden (HB.out.trans (b1.mono HB.out.size))
  have l1 := (H1.out.later b1).ld
  have HC1 := hidden (HC.out.later b1)
  clear CK b1 hl
  by_cases hz : chk (val c) = 0
  · obtain ⟨hP, hL, hpc, hvl⟩ := chk_ok hz
    have hgl : (val c).gs.length = c.gl := HC.out.2.1.1
    have hnl : (val c).ns.length = c.nl := HC.out.2.2.1.1
    have hdl : (val c).ds.length = c.dl := HC.out.2.2.2.1.1
    have VA := hidden ((rValue base c w1 HC1.out hP.1 hpc (by omega) (by omega) (by omega) hbm).mono fun e w' h => h.len hpc)
    have HE := hidden (show csize (val c) = (vlen (val c) + 7) / 4 * 4 by unfold csize; rw [if_pos hz]; unfold clen Par.fill4; omega)
    have hd : ((vlen (val c) : Int) + 7).tdiv 4 = (((vlen (val c) + 7) / 4 : Nat) : Int) := by
      rw [Int.tdiv_eq_ediv_of_nonneg (by omega)]; omega
    clear hP hL hpc hgl hnl hdl
    go_wp2_with fail
    refine Calls.mono VA.out ?_
    rintro e w2 ⟨va, vc, rfl, b2⟩
    have HB2 := hidden (HB1.out.trans (b2.mono HB1.out.size))
    clear b2 VA
    go_wp2
    go_ret
    exact fin_i (by rw [HE.out]; omega) HB2.out
  · have HE := hidden (show csize (val c) = 0 by unfold csize; rw [if_neg hz])
    have hne := bne_t hz
    go_wp2
    go_ret
    exact fin_i (by rw [HE.out]; rfl) HB1.out
theorem own_down {w : World} {base base' e s n : Nat} {v : Value} {xs : List Value} (h : w.ownsRow base e s v n xs) (hb : base' ≤ base) : w.ownsRow base' e s v n xs := by
  obtain ⟨h1, h2⟩ := h
  refine ⟨h1, ?_⟩
  rcases h2 with h2 | ⟨g, cap, cur, h3, h4, h5⟩
  · exact .inl h2
  · exact .inr ⟨g, cap, cur, h3, Nat.le_trans hb h4, h5⟩
set_option maxRecDepth 20000 in
set_option maxHeartbeats 4000000 in
theorem rEncode (base : Nat) (w : World) (a : Option Addr) (n cp : Nat) (l : List Ck) (hl : Cks base w a n l) (hbm : ∀ c ∈ l, c.bl ≤ 140737488351232) :
    Calls Try.prog 10 #[.slice a n cp] w fun e w' => ∃ v er, e = .returned (.tuple #[v, .int .i64 er]) ∧ EncR (l.map val) er ∧ (er ≠ 0 → v = .slice none 0 0) ∧
      (er = 0 → w'.ownsRow w.heap.size 5 1 v (encA (l.map val)).length (Par.cs (encA (l.map val)))) ∧ Below w.heap.size w w' := by
  obtain ⟨i0, hi, hz0, hz1, hz2⟩ := info_parts Par.info5
  have HL := hidden hl
  have HBM := hidden hbm
  have hnl := hl.2.1
  have HLL := hidden (show (l.map val).length = n by rw [List.length_map]; exact hl.1)
  clear hl hbm
  go_enter Try.func10, Try.ntmps10
  go_wp2_with fail
  go_loopw [5] (fun i wr => ∃ k : Nat, k ≤ n ∧ i = .int .i64 k ∧ (∀ u ∈ (l.map val).take k, chk u = 0) ∧ Below w.heap.size w wr) (fun i _ => n - (intOf i).toNat)
  case atStart => exact ⟨0, Nat.zero_le _, rfl, (fun u hu => by simp at hu), Below.refl _ _⟩
  case round =>
    obtain ⟨k, hk, rfl, hall, hbl⟩ := hrel
    rcases Nat.lt_or_ge k n with hlt | hge
    · obtain ⟨b, off, c, rfl, hck, hld, hchk⟩ := (HL.out.later hbl).get hlt
      have HA := hidden hall
      have HV := hidden (map_at hck)
      have HB := hidden hbl
      have CK := hidden (rCheck base c wr hchk (HBM.out c (List.mem_of_getElem? hck)))
      clear hck hall hbl hchk
      go_wp2_with fail
      refine Calls.mono CK.out ?_
      rintro e w1 ⟨rfl, b1⟩
      have HB1 := hidden (HB.out.trans (b1.mono HB.out.size))
      clear b1 CK HB hld
      by_cases hz : chk (val c) = 0
      · rw [hz]
        go_wp2
        go_roundw
        case rel => exact ⟨k + 1, by omega, by go_num, all_step HA.out HV.out hz, HB1.out⟩
        case measure => simp [intOf]; omega
      · have hne := bne_t hz
        go_wp2
        go_ret2
        exact ⟨_, _, rfl, .inl ⟨k, _, HV.out, HA.out, hz, rfl⟩, (fun _ => rfl), (fun h => absurd h hz), HB1.out⟩
    · obtain rfl : n = k := by omega
      rw [List.take_of_length_le (by rw [HLL.out]; omega)] at hall
      have HA := hidden hall
      have HW := hidden hbl
      clear hall hbl hge hk
      obtain ⟨w1, rfl⟩ : ∃ x, x = wr := ⟨_, rfl⟩
      go_wp2_with fail
      go_loopw [4, 7] (fun v i wr => ∃ k : Nat, k ≤ n ∧ i = .int .i64 k ∧ Bd w1 wr v (encA ((l.map val).take k)) ∧ tot ((l.map val).take k) ≤ 65536) (fun _ i _ => n - (intOf i).toNat)
      case atStart => exact ⟨0, Nat.zero_le _, rfl, Bd.nil w1, Nat.zero_le _⟩
      case round =>
        obtain ⟨k, hk, rfl, hb, hT⟩ := hrel
        rcases Nat.lt_or_ge k n with hlt | hge
        rotate_left
        · obtain rfl : n = k := by omega
          rw [List.take_of_length_le (by rw [HLL.out]; omega)] at hb hT
          have HB := hidden hb
          have HT := hidden hT
          obtain ⟨va, vc, rfl⟩ := hb.form
          clear hb hT
          generalize (encA (l.map val)).length = m at *
          go_wp2
          go_ret2
          exact ⟨_, _, rfl, .inr (.inr ⟨HA.out, HT.out, rfl⟩), (fun h => absurd rfl h), (fun _ => own_down HB.out.1 HW.out.size), HW.out.trans (HB.out.2.mono HW.out.size)⟩
        obtain ⟨b, off, c, rfl, hck, hld, hchk⟩ := ((HL.out.later HW.out).later hb.2).get hlt
        have hvk := map_at hck
        have hc0 := HA.out _ (List.mem_of_getElem? hvk)
        obtain ⟨hP, hLE, hpc, hvl⟩ := chk_ok hc0
        have hgl : (val c).gs.length = c.gl := hchk.2.1.1
        have hnl : (val c).ns.length = c.nl := hchk.2.2.1.1
        have hdl : (val c).ds.length = c.dl := hchk.2.2.2.1.1
        have VA := hidden (rValue base c wr hchk hP.1 hpc (by omega) (by omega) (by omega) (HBM.out c (List.mem_of_getElem? hck)))
        have HLE : (vby (val c)).length = vlen (val c) := vby_len _ hpc
        have HBY := hidden (vby_bytes hchk.vok hc0)
        have HC0 := hidden (show ∀ y, Below w1.heap.size w1 y → y.cell? ⟨b, off + k * 15, none⟩ = some (.int .u8 c.kind) from fun y hy => ((HL.out.later HW.out).later hy).cell hck 0 _ rfl)
        have HC1 := hidden (show ∀ y, Below w1.heap.size w1 y → y.cell? ⟨b, off + k * 15 + 1, none⟩ = some (.int .u8 c.flags) from fun y hy => ((HL.out.later HW.out).later hy).cell hck 1 _ rfl)
        have HTS := hidden (tot_snoc hvk)
        have HES := hidden (encA_snoc hvk)
        have hTM := tot_mod ((l.map val).take k)
        have HTT := hidden (tot_take (l.map val) (k + 1))
        have HLX : (encA ((l.map val).take k)).length = tot ((l.map val).take k) := encA_len (fun u hu => HA.out u (List.mem_of_mem_take hu))
        have HCL : clen (val c) = Par.fill4 (4 + vlen (val c)) := rfl
        have HEC := hidden (show encC (val c) = [c.kind, c.flags] ++ twos [4 + (vlen (val c) : Int)] ++ vby (val c) ++ List.replicate (clen (val c) - (4 + vlen (val c))) 0 from rfl)
        have HB := hidden hb
        clear hchk hb hgl hnl hdl hP hLE hpc hck hvk hc0
        generalize hX : encA ((l.map val).take k) = X at *
        generalize tot ((l.map val).take k) = t at *
        generalize hY : vby (val c) = Y at *
        generalize hvv : vlen (val c) = vl at *
        clear hX hY hvv
        obtain ⟨va, vc, rfl⟩ := HB.out.form
        generalize hm : X.length = m at *
        obtain rfl : m = t := HLX
        have HLX := hidden hm
        clear hm
        go_wp2_with fail
        refine Calls.mono VA.out ?_
        rintro e W ⟨wv, u, rfl, hBu, hbu⟩
        obtain ⟨ua, uc, rfl⟩ := hBu.form
        have h2 : Bd2 w1 W (.slice va m vc) X (.slice ua Y.length uc) Y := by
          have hb1 := hbu.trans (hBu.2.mono hbu.size)
          refine ⟨HB.out.later hb1, own_down hBu.1 (Nat.le_trans HB.out.2.size hbu.size), ?_⟩
          cases hu : (Value.slice ua Y.length uc).ownBlock with
          | none => exact .inl rfl
          | some g =>
            right
            intro hh
            have g1 := (hBu.1.lt g hu).1
            have g2 := (HB.out.1.lt g hh.symm).2
            have := hbu.size
            omega
        rw [HLE] at h2 ⊢
        obtain ⟨v3, w3, hr3, hB3⟩ := run_apN (zs := [c.kind, c.flags]) h2.drew (by simp) (by rw [HLX.out]; simp; omega) 23
        have HRA := hidden (show (Builtin.append_ #[23, 23] 23 #[.slice va m vc, .slice (some ⟨W.drew.heap.size, 0, none⟩) 2 2]).run Try.prog (W.drew.alloc (.cells #[.int .u8 c.kind, .int .u8 c.flags] 5)) = .ok v3 w3 from hr3)
        have HBA := hidden hB3
        have HK0 := hidden h2.drew.1.2
        have HK1 := hidden (h2.drew.1.2.alloc h2.drew.1.2.size (.cells #[.int .u8 c.kind, .int .u8 c.flags] 5))
        clear VA hBu hbu h2 hr3 hB3
        go_wp2_with fail
        refine Ord.wp_region_ex (X := Value × Value × Value) (by kernel_rfl) 66 (fun x => [(some 34, .slice va m vc), (some 35, .slice (some ⟨b, off, none⟩) n cp), (some 36, .int .i64 (k : Int)), (some 37, .pointer (some ⟨b, off + k * 15, none⟩)), (some 38, .pointer (some ⟨b, off + k * 15, none⟩)), (some 39, .int .u8 c.kind), (some 40, .slice (some ⟨b, off, none⟩) n cp), (some 41, .int .i64 (k : Int)), (some 42, .pointer (some ⟨b, off + k * 15, none⟩)), (some 43, .pointer (some ⟨b, off + k * 15 + 1, none⟩)), (some 44, .int .u8 c.flags), (some 45, x.1), (some 46, x.2.1), (some 47, .slice ua vl uc), (some 48, .int .i64 (vl : Int)), (some 49, .int .i64 ((vl + 4 : Nat) : Int)), (some 50, .int .u32 ((vl + 4 : Nat) : Int)), (some 51, x.2.2), (some 4, x.2.2)]) [some 34, some 35, some 36, some 37, some 38, some 39, some 40, some 41, some 42, some 43, some 44, some 45, some 46, some 47, some 48, some 49, some 50, some 51, some 4] rfl (by kernel_rfl) (by rfl) (fun _ => rfl) (by kernel_rfl) (Ord.St3 11 12 17 (fun y => y = W.drew) (fun v y => v = .slice (some ⟨W.drew.heap.size, 0, none⟩) 2 2 ∧ y = (W.drew.alloc (.cells #[.int .u8 c.kind, .int .u8 c.flags] 5))) (fun v y => Bd2 w1 y v (X ++ [c.kind, c.flags]) (.slice ua vl uc) Y) (fun v y => Bd2 w1 y v (X ++ [c.kind, c.flags] ++ twos [((vl + 4 : Nat) : Int)]) (.slice ua vl uc) Y)) (fun _ _ _ _ hL h => h.ext (n := 19) (by decide) (by decide) (by decide) hL) ?_ ?_ (undef, undef, undef) ?_
        case refine_1 =>
          intro x L i o ac w' ho hi hcl hdep hF hW
          have hK := hW.all (fun h => by rw [h]; exact HK0.out) (fun _ h => by rw [h.2]; exact HK1.out) (fun _ h => h.1.2) (fun _ h => h.1.2)
          have f1' : ac.tmps.size = 66 := hF.1
          match i, ho, hi, hdep with
          | 0, ho, hi, hdep =>
            cases ho
            have hy : L 18 = false := by
              cases hb : L 18 with
              | false => rfl
              | true =>
                have h17 := hcl 18 _ rfl hb ⟨17, .data⟩ (by simp) rfl
                have h12 := hcl 17 _ rfl h17 ⟨12, .data⟩ (by simp) rfl
                have h0 := hcl 12 _ rfl h12 ⟨0, .data⟩ (by simp) rfl
                rw [hi] at h0; cases h0
            have da0 : ac.eval (.tmp 4) = .slice va m vc := hF.yet 4 18 (by rfl) hy
            exact Ord.ex_value x rfl rfl (o_mv _ rfl da0) rfl (hW.keep (by decide) (by decide) (by decide))
          | 1, ho, hi, hdep =>
            cases ho
            have da0 : ac.eval (.tmp 0) = .slice (some ⟨b, off, none⟩) n cp := hF.old 0 rfl
            exact Ord.ex_value x rfl rfl (o_mv _ rfl da0) rfl (hW.keep (by decide) (by decide) (by decide))
          | 2, ho, hi, hdep =>
            cases ho
            have da0 : ac.eval (.tmp 7) = .int .i64 (k : Int) := hF.old 7 rfl
            exact Ord.ex_value x rfl rfl (o_mv _ rfl da0) rfl (hW.keep (by decide) (by decide) (by decide))
          | 3, ho, hi, hdep =>
            cases ho
            have da0 : ac.eval (.tmp 35) = .slice (some ⟨b, off, none⟩) n cp := hF.2.2.2 1 35 _ rfl (hdep ⟨1, .data⟩ (by simp) rfl)
            have da1 : ac.eval (.tmp 36) = .int .i64 (k : Int) := hF.2.2.2 2 36 _ rfl (hdep ⟨2, .data⟩ (by simp) rfl)
            exact Ord.ex_value x rfl rfl (o_ixC _ _ da0 da1 hlt rfl) rfl (hW.keep (by decide) (by decide) (by decide))
          | 4, ho, hi, hdep =>
            cases ho
            have da0 : ac.eval (.tmp 37) = .pointer (some ⟨b, off + k * 15, none⟩) := hF.2.2.2 3 37 _ rfl (hdep ⟨3, .data⟩ (by simp) rfl)
            exact Ord.ex_value x rfl rfl (o_f0 _ da0 rfl) rfl (hW.keep (by decide) (by decide) (by decide))
          | 5, ho, hi, hdep =>
            cases ho
            have da0 : ac.eval (.tmp 38) = .pointer (some ⟨b, off + k * 15, none⟩) := hF.2.2.2 4 38 _ rfl (hdep ⟨4, .data⟩ (by simp) rfl)
            exact Ord.ex_value x rfl rfl (e_ld _ da0 rfl (ldK _ _ _ (HC0.out _ hK))) rfl (hW.keep (by decide) (by decide) (by decide))
          | 6, ho, hi, hdep =>
            cases ho
            have da0 : ac.eval (.tmp 0) = .slice (some ⟨b, off, none⟩) n cp := hF.old 0 rfl
            exact Ord.ex_value x rfl rfl (o_mv _ rfl da0) rfl (hW.keep (by decide) (by decide) (by decide))
          | 7, ho, hi, hdep =>
            cases ho
            have da0 : ac.eval (.tmp 7) = .int .i64 (k : Int) := hF.old 7 rfl
            exact Ord.ex_value x rfl rfl (o_mv _ rfl da0) rfl (hW.keep (by decide) (by decide) (by decide))
          | 8, ho, hi, hdep =>
            cases ho
            have da0 : ac.eval (.tmp 40) = .slice (some ⟨b, off, none⟩) n cp := hF.2.2.2 6 40 _ rfl (hdep ⟨6, .data⟩ (by simp) rfl)
            have da1 : ac.eval (.tmp 41) = .int .i64 (k : Int) := hF.2.2.2 7 41 _ rfl (hdep ⟨7, .data⟩ (by simp) rfl)
            exact Ord.ex_value x rfl rfl (o_ixC _ _ da0 da1 hlt rfl) rfl (hW.keep (by decide) (by decide) (by decide))
          | 9, ho, hi, hdep =>
            cases ho
            have da0 : ac.eval (.tmp 42) = .pointer (some ⟨b, off + k * 15, none⟩) := hF.2.2.2 8 42 _ rfl (hdep ⟨8, .data⟩ (by simp) rfl)
            exact Ord.ex_value x rfl rfl (o_f1 _ da0 rfl) rfl (hW.keep (by decide) (by decide) (by decide))
          | 10, ho, hi, hdep =>
            cases ho
            have da0 : ac.eval (.tmp 43) = .pointer (some ⟨b, off + k * 15 + 1, none⟩) := hF.2.2.2 9 43 _ rfl (hdep ⟨9, .data⟩ (by simp) rfl)
            exact Ord.ex_value x rfl rfl (e_ld _ da0 rfl (ld8 _ _ _ (HC1.out _ hK))) rfl (hW.keep (by decide) (by decide) (by decide))
          | 11, ho, hi, hdep =>
            cases ho
            have da0 : ac.eval (.tmp 39) = .int .u8 c.kind := hF.2.2.2 5 39 _ rfl (hdep ⟨5, .data⟩ (by simp) rfl)
            have da1 : ac.eval (.tmp 44) = .int .u8 c.flags := hF.2.2.2 10 44 _ rfl (hdep ⟨10, .data⟩ (by simp) rfl)
            cases hW.1 hi
            exact Ord.ex_letter x (_, x.2) rfl rfl (o_bs2 _ _ da0 da1 rfl) rfl (fun j hj => match j, hj with | 0, _ => rfl | 1, _ => rfl | 2, _ => rfl | 3, _ => rfl | 4, _ => rfl | 5, _ => rfl | 6, _ => rfl | 7, _ => rfl | 8, _ => rfl | 9, _ => rfl | 10, _ => rfl | 11, hj => absurd hj (by rw [hi]; decide) | 12, _ => rfl | 13, _ => rfl | 14, _ => rfl | 15, _ => rfl | 16, _ => rfl | 17, _ => rfl | 18, _ => rfl | _ + 19, _ => rfl) (hW.one (by decide) (by decide) hi (⟨rfl, rfl⟩))
          | 12, ho, hi, hdep =>
            cases ho
            have da0 : ac.eval (.tmp 34) = .slice va m vc := hF.2.2.2 0 34 _ rfl (hdep ⟨0, .data⟩ (by simp) rfl)
            have da1 : ac.eval (.tmp 45) = x.1 := hF.2.2.2 11 45 _ rfl (hdep ⟨11, .data⟩ (by simp) rfl)
            obtain ⟨hx1, hw1⟩ := hW.2.1 (hdep ⟨11, .data⟩ (by simp) rfl) hi
            cases hw1
            rw [hx1] at da1
            exact Ord.ex_letter x (x.1, _, x.2.2) rfl rfl (o_apB _ _ da0 da1 rfl HRA.out) rfl (fun j hj => match j, hj with | 0, _ => rfl | 1, _ => rfl | 2, _ => rfl | 3, _ => rfl | 4, _ => rfl | 5, _ => rfl | 6, _ => rfl | 7, _ => rfl | 8, _ => rfl | 9, _ => rfl | 10, _ => rfl | 11, _ => rfl | 12, hj => absurd hj (by rw [hi]; decide) | 13, _ => rfl | 14, _ => rfl | 15, _ => rfl | 16, _ => rfl | 17, _ => rfl | 18, _ => rfl | _ + 19, _ => rfl) (hW.two (by decide) (hdep ⟨11, .data⟩ (by simp) rfl) hi (HBA.out))
          | 13, ho, hi, hdep =>
            cases ho
            have da0 : ac.eval (.tmp 8) = .slice ua vl uc := hF.old 8 rfl
            exact Ord.ex_value x rfl rfl (o_mv _ rfl da0) rfl (hW.keep (by decide) (by decide) (by decide))
          | 14, ho, hi, hdep =>
            cases ho
            have da0 : ac.eval (.tmp 47) = .slice ua vl uc := hF.2.2.2 13 47 _ rfl (hdep ⟨13, .data⟩ (by simp) rfl)
            exact Ord.ex_value x rfl rfl (o_len (lenB _ _ _ _) _ da0 rfl) rfl (hW.keep (by decide) (by decide) (by decide))
          | 15, ho, hi, hdep =>
            cases ho
            have da0 : ac.eval (.tmp 48) = .int .i64 (vl : Int) := hF.2.2.2 14 48 _ rfl (hdep ⟨14, .data⟩ (by simp) rfl)
            exact Ord.ex_value x rfl rfl (o_a4 _ da0 (by omega) rfl) rfl (hW.keep (by decide) (by decide) (by decide))
          | 16, ho, hi, hdep =>
            cases ho
            have da0 : ac.eval (.tmp 49) = .int .i64 ((vl + 4 : Nat) : Int) := hF.2.2.2 15 49 _ rfl (hdep ⟨15, .data⟩ (by simp) rfl)
            exact Ord.ex_value x rfl rfl (o_cl _ da0 (by omega) rfl) rfl (hW.keep (by decide) (by decide) (by decide))
          | 17, ho, hi, hdep =>
            cases ho
            have da0 : ac.eval (.tmp 46) = x.2.1 := hF.2.2.2 12 46 _ rfl (hdep ⟨12, .data⟩ (by simp) rfl)
            have da1 : ac.eval (.tmp 50) = .int .u32 ((vl + 4 : Nat) : Int) := hF.2.2.2 16 50 _ rfl (hdep ⟨16, .data⟩ (by simp) rfl)
            refine Ord.ex_call x (fun v => (x.1, x.2.1, v)) rfl rfl (o_put _ _ da0 da1 rfl) (fun _ => rfl) (fun v j hj => match j, hj with | 0, _ => rfl | 1, _ => rfl | 2, _ => rfl | 3, _ => rfl | 4, _ => rfl | 5, _ => rfl | 6, _ => rfl | 7, _ => rfl | 8, _ => rfl | 9, _ => rfl | 10, _ => rfl | 11, _ => rfl | 12, _ => rfl | 13, _ => rfl | 14, _ => rfl | 15, _ => rfl | 16, _ => rfl | 17, hj => absurd hj (by rw [hi]; decide) | 18, hj => absurd (hcl 18 _ rfl hj ⟨17, .data⟩ (by simp) rfl) (by rw [hi]; decide) | _ + 19, _ => rfl) (Calls.mono (rPut2b w1 w' _ _ _ _ (hW.2.2.1 (hdep ⟨12, .data⟩ (by simp) rfl) hi) (by rw [List.length_append, HLX.out]; simp; omega) ((vl + 4 : Nat) : Int) (by omega) (by omega)) ?_)
            rintro e w1 ⟨v', rfl, hB⟩
            exact ⟨_, rfl, hW.three (hdep ⟨12, .data⟩ (by simp) rfl) (hB)⟩
          | 18, ho, hi, hdep =>
            cases ho
            have da0 : ac.eval (.tmp 51) = x.2.2 := hF.2.2.2 17 51 _ rfl (hdep ⟨17, .data⟩ (by simp) rfl)
            exact Ord.ex_value x rfl rfl (o_as _ rfl da0) rfl (hW.keep (by decide) (by decide) (by decide))
        case refine_3 => exact ⟨fun _ => rfl, (fun e => Bool.noConfusion e), (fun e => Bool.noConfusion e), (fun e => Bool.noConfusion e), (fun e => Bool.noConfusion e), (fun e => Bool.noConfusion e)⟩
        case refine_2 =>
          intro x W4 hS
          obtain ⟨hB4, hU4, _⟩ := hS.2.2.2.1 rfl
          clear hS HRA HBA HK0 HK1
          obtain ⟨x1, x2, x3⟩ := x
          simp only at hB4 hU4
          rw [HLE] at hU4
          obtain ⟨ua', uc', hue, hrow, _, _, hnone⟩ := Par.row_own hU4 HBY.out (by omega)
          cases hue
          obtain ⟨v5, w5, hr5, hB5⟩ := run_apB hB4 ua vl uc hrow hnone (by simp [HLX.out, twos_len]; omega) 23
          obtain ⟨va4, vc4, rfl⟩ := hB4.form
          have hlen : (X ++ [c.kind, c.flags] ++ twos [((vl + 4 : Nat) : Int)] ++ Y).length = m + (4 + vl) := by simp [HLX.out, twos_len, HLE]; omega
          have hz4 : X ++ [c.kind, c.flags] ++ twos [((vl + 4 : Nat) : Int)] ++ Y ++ List.replicate (clen (val c) - (4 + vl)) 0 = X ++ encC (val c) := by
            rw [HEC.out, show ((vl + 4 : Nat) : Int) = 4 + (vl : Int) by omega]
            simp only [List.append_assoc]
          have HZ := hidden hz4
          have HLZ := hidden hlen
          have HB5 := hidden hB5
          have hr5' := hr5
          clear hlen hz4 hB5 hr5 hrow hU4 hB4 hnone
          generalize (X ++ [c.kind, c.flags] ++ twos [((vl + 4 : Nat) : Int)]).length = q at *
          simp only [Ord.puts, Ord.prs, List.filterMap_cons, List.filterMap_nil, Option.map_some, List.foldl_cons, List.foldl_nil]
          go_simp
          go_wp2_with (at_builtin; refine Ord.wpList_val rfl rfl (o_apB _ _ rfl rfl rfl hr5') ?_)
          clear hr5'
          generalize X ++ [c.kind, c.flags] ++ twos [((vl + 4 : Nat) : Int)] ++ Y = Z at *
          go_wp2_with fail
          go_loopw [4] (fun v wr => ∃ d : Nat, m + (4 + vl) + d ≤ Par.fill4 (m + (4 + vl)) ∧ Bd w1 wr v (Z ++ List.replicate d 0)) (fun v _ => Par.fill4 (m + (4 + vl)) - Par.lenW v)
          case atStart => exact ⟨0, by have := Par.fill4_le (m + (4 + vl)); omega, by simpa using HB5.out⟩
          case round =>
            obtain ⟨d, hd, hb⟩ := hrel
            have hl6 : (Z ++ List.replicate d 0).length = m + (4 + vl) + d := by rw [List.length_append, List.length_replicate, HLZ.out]
            obtain ⟨va6, vc6, rfl⟩ := hb.form
            have HB6 := hidden hb
            clear hb
            generalize (Z ++ List.replicate d 0).length = M at *
            have htm : (M : Int).tmod 4 = ((M % 4 : Nat) : Int) := by rw [Int.tmod_eq_emod_of_nonneg (by omega)]; omega
            by_cases hz : M % 4 = 0
            · have hpad : clen (val c) - (4 + vl) = d := by
                have h1 := Par.fill_end (m + (4 + vl)) d hd (by rw [← hl6]; exact hz)
                have h2 := pad4 m vl hTM
                rw [HCL]
                omega
              have hf := Par.fill4_le (4 + vl)
              rw [hpad] at HZ
              have hMC : M = m + clen (val c) := by rw [HCL] at hpad ⊢; omega
              have htz : (M : Int).tmod 4 = 0 := by rw [htm, hz]; rfl
              have hzi : (M : Int) % 4 = 0 := by omega
              clear htm
              by_cases hbig : 65536 < M
              · have i9 : (65536 : Int) < (M : Int) := by omega
                have HF := hidden (show 65536 < tot (l.map val) by have h1 := HTT.out; have h2 := HTS.out; omega)
                go_wp2
                go_ret2
                exact ⟨_, _, rfl, .inr (.inl ⟨HA.out, HF.out, rfl⟩), (fun _ => rfl), (fun h => by cases h), HW.out.trans (HB6.out.2.mono HW.out.size)⟩
              · have i9 : ¬ (65536 : Int) < (M : Int) := by omega
                have HF := hidden (show tot ((l.map val).take (k + 1)) ≤ 65536 by have h2 := HTS.out; omega)
                go_wp2
                go_roundw
                case rel => exact ⟨k + 1, by omega, by go_num, HB6.out.eqn (by rw [HES.out, HZ.out]), HF.out⟩
                case measure => simp [intOf]; omega
            · have hmore := Par.fill_more (m + (4 + vl)) d hd (by rw [← hl6]; exact hz)
              have hnz : ¬ (((M % 4 : Nat) : Int) = 0) := by omega
              have hfl : Par.fill4 (m + (4 + vl)) ≤ m + (4 + vl) + 3 := by unfold Par.fill4; omega
              obtain ⟨v7, w7, hr7, hB7⟩ := run_apN (zs := [0]) HB6.out.two (by simp) (by have := HLZ.out; simp only [List.length_append, List.length_replicate, List.length_cons, List.length_nil]; omega) 23
              have hr7' : (Builtin.append_ #[23, 23] 23 #[.slice va6 M vc6, .slice (some ⟨wr.heap.size, 0, none⟩) 1 1]).run Try.prog (wr.alloc (.cells #[.int .u8 0] 5)) = .ok v7 w7 := hr7
              have hb7 := hB7.1.eqn (show Z ++ List.replicate d 0 ++ [0] = Z ++ List.replicate (d + 1) 0 by rw [List.replicate_succ', List.append_assoc])
              obtain ⟨va7, vc7, rfl⟩ := hb7.form
              have hl7 : (Z ++ List.replicate (d + 1) 0).length = m + (4 + vl) + (d + 1) := by rw [List.length_append, List.length_replicate, HLZ.out]
              have HB7 := hidden hb7
              clear hB7 hr7 hb7
              generalize (Z ++ List.replicate (d + 1) 0).length = M7 at *
              have HL7 := hidden hl7
              clear hl7
              generalize ((M % 4 : Nat) : Int) = q4 at *
              go_wp2_with (at_builtin; refine Ord.wpList_val rfl rfl (o_apB _ _ rfl rfl rfl hr7') ?_)
              clear hr7'
              go_wp2
              go_roundw
              case rel => exact ⟨d + 1, hmore, HB7.out⟩
              case measure => have h7 := HL7.out; simp [Par.lenW]; omega
end Go.Proofs.Ytifdkpifambhaaa.Chu
