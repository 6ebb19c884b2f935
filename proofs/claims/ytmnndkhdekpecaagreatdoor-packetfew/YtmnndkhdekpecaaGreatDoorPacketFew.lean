/-
  What PacketFew says of every length and every list of chunks is true: each row of a bundle is a packet that fits, no row's first chunk fits behind the row ahead, and the rows, one behind the other, are the chunks. Conditions: the chunks and all that they hold lie in memory, as whatever is handed in does.
-/
import Derived.Test.YtmnndkhdekpecaaGreatDoorCards
import Derived.Test.YtmnndkhdekpecaaGreatDoorTie
import Derived.WalkKit
import Derived.ProofKit
import Derived.OpenShut
import Derived.ShutString
import Derived.ChangeOld
import Derived.Below
import Derived.SizedLaws
import Derived.Deep.DeepHandedRow
import Derived.LaidLaws
import Derived.ChangeMaps5
import Derived.Lib.LaidTab
import Derived.Test.YtmnndkhdekpecaaGreatDoorPkF2
namespace Go.Proofs.YtmnndkhdekpecaaGreatDoor.packetFew
open Go.ChangeShapes Go.WideShapes Go.ChangeAt Go.RowKit
open Go.ChangeMaps (open_string shut_string)
set_option linter.unusedVariables false

theorem own : ownKnob Tryz.prog.godebug = none := by kernel_rfl
theorem laidOut : laidOutB Tryz.prog = true := by kernel_rfl
theorem gTab : Tryz.prog.globalNamed "ropewalk/crc.nibbleSteps" = some 0 := by kernel_rfl
theorem gTabType : (Tryz.prog.globals[0]?).map (·.type) = some 152 := by kernel_rfl
theorem table {W : World} (h : laidMetH Tryz.prog Rows.packetFewRow.laid W) : Crc.Tab W := fun i hi =>
  (show Lib.TabIs Tryz.prog W "ropewalk/crc.nibbleSteps" .u32 Crc.tab from
    Lib.tabIs_of_head (rest := []) gTab gTabType Tryz.underlying152 Tryz.underlying23 (by kernel_rfl) (by kernel_rfl) h).cell gTab i hi

open Par (hidden)
set_option maxRecDepth 20000 in
set_option maxHeartbeats 2000000 in

theorem walk (a0 : Int) (a1 : Option Addr) (len1 cap1 : Nat) (z1 : List Chu.Ck) (w : World) (w0 : (Lit.int .i64 a0).wf = true) (w1 : Chu.Cks 0 w a1 len1 z1) (s1 : ∀ c ∈ z1, c.bl ≤ 140737488351232) (t1 : len1 * 152 ≤ 140737488351232) (ht : Crc.Tab w) :
    Calls Tryz.prog 7 #[.int .i64 a0, .slice a1 len1 cap1] w fun e w' => e = .returned (.bool true) ∧ Below w.heap.size w w' := by
  have hm : -9223372036854775808 ≤ a0 ∧ a0 ≤ 9223372036854775807 := by
    simp [Lit.wf, IntKind.min, IntKind.max, IntKind.signed, IntKind.bits] at w0
    omega
  have BU := hidden (Pkt.bundle 0 a0 w a1 len1 cap1 z1 w1 hm t1)
  have W1 := hidden w1
  have HT := hidden ht
  have T1 := hidden t1
  obtain ⟨i0, hi, hz0, hz1, hz2⟩ := info_parts Chu.infoC3
  clear w0 w1 s1 ht t1
  go_enter Tryz.func7, Tryz.ntmps7
  go_wp2_with fail
  refine Calls.mono BU.out ?_
  rintro e wA ⟨⟨v, R, er, rfl, hR, hO⟩, b1⟩
  have HR := hidden hR
  have HO := hidden hO
  have B1 := hidden b1
  clear hR hO b1 BU
  obtain ⟨va, vcap, rfl⟩ : ∃ va vcap, v = .slice va R.length vcap := by obtain ⟨a, cap, e, _⟩ := Pkt.own_lies HR.out.1; exact ⟨a, cap, e⟩
  by_cases he : er = 0
  · subst he
    obtain ⟨e1, m1, m2, hck, hfit⟩ := HO.out.2.2.2 rfl
    have hbi := Pkt.BI.all (m := a0) (vs := z1.map Chu.val) hfit _ (Nat.le_refl _)
    rw [List.take_length] at hbi
    have HI := hidden hbi
    have HE1 := hidden e1
    have HCK := hidden hck
    have HLN := hidden (Pkt.rows_len hbi e1 m2)
    have HTL : Hid ((R.flatMap (·.2)).map Chu.val = z1.map Chu.val) := hidden (by rw [Pkt.fl_vals, e1, hbi.flat])
    have hlz : (R.flatMap (·.2)).length = len1 := by
      have := congrArg List.length HTL.out
      rw [List.length_map, List.length_map, W1.out.1] at this
      exact this
    have hRm : R.length ≤ 1000000000000 := by
      have h1 := Pkt.bun_len hbi
      rw [← e1] at h1
      simp [Pkt.rvs] at h1
      have h2 := T1.out
      have h3 := W1.out.1
      omega
    have hT1 := T1.out
    clear e1 hck hfit hbi
    go_wp2_with fail
    go_loopw [7, 8] (fun v i wr => ∃ k : Nat, k ≤ R.length ∧ i = .int .i64 k ∧ wr.ownsRow wA.heap.size 59 15 v (Pkt.fl R k).length (Chu.ccs (Pkt.fl R k)) ∧ Below wA.heap.size wA wr) (fun _ i _ => R.length - (intOf i).toNat)
    case atStart => exact ⟨0, Nat.zero_le _, rfl, World.ownsRow_nil _ _ _ _, Below.refl _ _⟩
    case round =>
      obtain ⟨k, hk, rfl, hal, hb⟩ := hrel
      obtain ⟨la, lcap, rfl⟩ : ∃ la lcap, u7 = .slice la (Pkt.fl R k).length lcap := by obtain ⟨a, cap, e, _⟩ := Pkt.own_lies hal; exact ⟨a, cap, e⟩
      have hfl := Pkt.fl_len R k
      rcases Nat.lt_or_ge k R.length with hlt | hge
      · obtain ⟨r, hr⟩ : ∃ r, R[k]? = some r := ⟨_, List.getElem?_eq_getElem hlt⟩
        have hmr := List.mem_of_getElem? hr
        have hR3 := HR.out.later hb
        obtain ⟨g, rfl, _, _, hgz, hc1, _⟩ := hR3.cell hr
        have hlr := HLN.out r hmr
        have hpos : 0 < r.2.length := Nat.pos_of_ne_zero fun e => (hR3.2.1 r hmr).1 (List.eq_nil_of_length_eq_zero e)
        obtain ⟨hh, rc, er1, _, _, hhz⟩ := Pkt.own_some (hR3.2.1 r hmr).2 hpos
        obtain ⟨ra, rc', er2, hk1⟩ := hR3.row hmr (by omega)
        rw [er1] at er2
        cases er2
        rw [er1] at hc1
        have hrv : r.2.map Chu.val ∈ Pkt.rowsOf (Pkt.bun a0 (z1.map Chu.val)) := by rw [← HE1.out]; exact List.mem_map.2 ⟨r, hmr, rfl⟩
        obtain ⟨pe, hN9⟩ := Pkt.row_enc HI.out m2 HCK.out hrv
        have hfl2 : (Pkt.fl R k).length + r.2.length ≤ len1 := by
          have h1 := Pkt.fl_len R (k + 1)
          rw [Pkt.fl_succ hr, List.length_append] at h1
          omega
        have HTW := hidden (HT.out.later (B1.out.trans (hb.mono B1.out.size)) HT.out.pos)
        have EN := hidden (Pkt.encode 0 wr ⟨1, 1, 0, some ⟨hh, 0, none⟩, r.2.length, rc, r.2⟩ ⟨by simp, by simp, by simp, Pkt.cks_zero hk1⟩ HTW.out)
        simp only [Pkt.pkv, Pkt.pkc] at EN
        have C0 := hidden hc1
        have HK1 := hidden (Pkt.cks_zero hk1)
        have HR3 := hidden hR3
        have HPE := hidden pe
        have HRK := hidden hr
        have HAL := hidden hal
        have HB := hidden hb
        have i1 : ((k : Nat) : Int) < (R.length : Int) := by omega
        clear hr hmr hR3 hk1 hrv pe hal hb er1
        go_wp2_with fail
        refine Calls.mono EN.out ?_
        rintro e w2 ⟨v9, er9, rfl, hE⟩
        obtain rfl : er9 = 0 := hE.1.one HPE.out
        obtain ⟨b9, q9, e9, _⟩ := Pkt.own_lies (hE.2.2.1 rfl)
        subst e9
        have HUW := hidden hE.2.2.2
        clear hE EN hc1
        simp only
        generalize hT9 : Chu.tot (r.2.map Chu.val) = T9 at hN9 ⊢
        clear hT9
        have i2 : (((12 + T9 : Nat) : Int)) ≤ a0 := by omega
        have i3 : ¬ a0 < ((12 + T9 : Nat) : Int) := by omega
        generalize 12 + T9 = N9 at i2 i3 ⊢
        clear hN9
        by_cases hk0 : k = 0
        · have i4 : ¬ (0 : Int) < (k : Int) := by omega
          clear hk0
          have HBA := hidden (HB.out.trans (HUW.out.mono HB.out.size))
          have HAL2 := hidden (Pkt.ownLater HAL.out HUW.out)
          have hc15 := ((HUW.out.cell (Par.cell_lt C0.out)).trans C0.out)
          have HNW := hidden (Pkt.lies_news (HK1.out.later HUW.out).2.2.2)
          have hsA : wA.heap.size ≤ w2.heap.size := HBA.out.size
          clear HUW HAL HB
          go_wp2_with (at_builtin; refine Chu.wpList_append_at rfl _ _ 24 rfl wA.heap.size 59 i0 (Chu.cv (Chu.zck 0)) Tryz.underlying24 hi hz0 (by rw [hz1]; rfl) (by rw [hz1]; decide) _ _ _ rfl (by rw [hz1]; exact HAL2.out) ⟨hh, 0, none⟩ r.2.length rc (Chu.ccs r.2) rfl (by rw [hz1]; exact Chu.ccs_len r.2) HNW.out (Pkt.ccs_cells r.2) hpos (by unfold maxLen; omega) (by first | omega | (rw [hz2]; omega)) hsA ?_)
          intro v3 w3 ho3 hg3 hw3
          have HBN := hidden (HBA.out.grown hg3 hsA (fun b hb => (HAL2.out.lt b hb).1))
          have HON := hidden (show w3.ownsRow wA.heap.size 59 15 v3 (Pkt.fl R (k + 1)).length (Chu.ccs (Pkt.fl R (k + 1))) by
            rw [Pkt.fl_succ HRK.out, List.length_append, show Chu.ccs (Pkt.fl R k ++ r.2) = Chu.ccs (Pkt.fl R k) ++ Chu.ccs r.2 from List.flatMap_append]
            exact ho3)
          clear ho3 hg3 hw3
          go_wp2
          go_roundw
          case rel => exact ⟨k + 1, by omega, by go_num, HON.out, HBN.out⟩
          case measure => simp [intOf]; omega
        · have i4 : (0 : Int) < (k : Int) := by omega
          have i6 : (0 : Int) < (r.2.length : Int) := by omega
          have c1 := ((HUW.out.cell (Par.cell_lt C0.out)).trans C0.out)
          go_upto_region 12 with fail
          obtain ⟨U, hU⟩ : ∃ U, U = w2 := ⟨_, rfl⟩
          subst hU
          obtain ⟨p, hp⟩ : ∃ p, R[k - 1]? = some p := ⟨_, List.getElem?_eq_getElem (by omega)⟩
          have hmp := List.mem_of_getElem? hp
          have hR4 := HR3.out.later HUW.out
          obtain ⟨g', eg, _, _, _, hc2, _⟩ := hR4.cell hp
          cases eg
          have hplen := HLN.out p hmp
          have hppos : 0 < p.2.length := Nat.pos_of_ne_zero fun e => (hR4.2.1 p hmp).1 (List.eq_nil_of_length_eq_zero e)
          obtain ⟨ph, pc, ep1, _, _, _⟩ := Pkt.own_some (hR4.2.1 p hmp).2 hppos
          obtain ⟨pa, pc', ep2, hkp⟩ := hR4.row hmp (by omega)
          rw [ep1] at ep2
          cases ep2
          rw [ep1] at hc2
          obtain ⟨c0, lr, hcr⟩ : ∃ c0 lr, r.2 = c0 :: lr := by
            cases hx : r.2 with
            | nil => rw [hx] at hpos; simp at hpos
            | cons c0 lr => exact ⟨c0, lr, rfl⟩
          have hkr := HK1.out.later HUW.out
          have L0 : Hid (∀ w', Below U.heap.size U w' → (Chu.ld (.pointer (some ⟨hh, 0, none⟩))).run Tryz.prog w' = .ok (Chu.cv c0) w') := hidden fun w' hb' => by
            obtain ⟨b', off', c', e5, h8, h9, _⟩ := (hkr.later hb').get (k := 0) hpos
            cases e5
            rw [hcr] at h8
            obtain rfl : c0 = c' := by simpa using h8
            simpa using h9
          have C1 := hidden c1
          have C2 := hidden hc2
          have HKP := hidden hkp
          have HPC : Hid (∀ c ∈ p.2 ++ [c0], Chu.Chk 0 U c) := hidden fun c hc => by
            rcases List.mem_append.1 hc with hc | hc
            · exact Pkt.chk_mono (hkp.2.2.1 c hc) (Nat.zero_le _)
            · obtain rfl := List.mem_singleton.1 hc
              exact hkr.2.2.1 c (by rw [hcr]; simp)
          have HTU := hidden (HTW.out.later HUW.out HTW.out.pos)
          have i5 : (k : Int) - 1 = ((k - 1 : Nat) : Int) := by omega
          have HME : Hid (∀ e, Pkt.PEnc 1 1 ((p.2 ++ [c0]).map Chu.val) e → e = 0 → a0 < 12 + Chu.tot ((p.2 ++ [c0]).map Chu.val)) := hidden fun e hE => by
            rw [List.map_append] at hE ⊢
            refine Pkt.more_enc (r' := lr.map Chu.val) (i := k - 1) HI.out ?_ ?_ hE
            · rw [← HE1.out]; simp [Pkt.rvs, List.getElem?_map, hp]
            · rw [← HE1.out, Nat.sub_add_cancel (by omega)]; simp [Pkt.rvs, List.getElem?_map, HRK.out, hcr]
          have HI5 := hidden i5
          clear hp hmp hR4 hc2 hkp hkr c1 hcr ep1
          refine Ord.wp_region_ex0 (X := Pkt.Fw) (by kernel_rfl) 100 (fun x => [(some 61, x.a), (some 62, .slice (some ⟨g, 0, none⟩) R.length vcap), (some 63, .int .i64 (k : Int)), (some 64, .int .i64 ((k : Int) - 1)), (some 65, .pointer (some ⟨g, k - 1, none⟩)), (some 66, .slice (some ⟨ph, 0, none⟩) p.2.length pc), (some 67, x.b), (some 68, .slice (some ⟨g, 0, none⟩) R.length vcap), (some 69, .int .i64 (k : Int)), (some 70, .pointer (some ⟨g, k, none⟩)), (some 71, .slice (some ⟨hh, 0, none⟩) r.2.length rc), (some 72, .pointer (some ⟨hh, 0, none⟩)), (some 73, Chu.cv c0), (some 74, x.c), (some 75, x.d), (some 76, .agg #[.int .u16 1, .int .u16 1, .int .u32 0, x.d]), (some 77, .tuple #[x.v, .int .i64 x.er]), (some 60, .tuple #[x.v, .int .i64 x.er]), (some 78, x.v), (some 79, .int .i64 x.er), (some 11, x.v), (some 12, .int .i64 x.er)]) [some 61, some 62, some 63, some 64, some 65, some 66, some 67, some 68, some 69, some 70, some 71, some 72, some 73, some 74, some 75, some 76, some 77, some 60, some 78, some 79, some 11, some 12] rfl (fun listed hsz hr => Ord.all_listedC (rank := [0, 1, 2, 3, 4, 5, 6, 7, 8, 9, 10, 11, 12, 13, 14, 15, 16, 17, 18, 19, 20, 21]) (by kernel_rfl) hsz hr) (by rfl) (fun _ => rfl) (by kernel_rfl) (fun x L u => Pkt.FwA U p.2 c0 x (L 0) (L 6) (L 13) (L 14) (L 16) u) (fun _ L L' _ hL h => by rw [← hL 0 (by decide), ← hL 6 (by decide), ← hL 13 (by decide), ← hL 14 (by decide), ← hL 16 (by decide)]; exact h) ?_ ?_ ⟨undef, undef, undef, undef, undef, 0⟩ ?_
          case refine_1 =>
            intro x L i o ac w' ho hi hcl hdep hF hW
            have f1 : ac.tmps.size = 100 := hF.1
            match i, ho, hi, hdep with
            | 0, ho, hi, hdep =>
              cases ho
              have h6 : L 6 = false := Pkt.no_of (fun h => hcl 6 _ rfl h ⟨0, .data⟩ (by simp) rfl) hi
              have h14 : L 14 = false := Pkt.no_of (fun h => hcl 14 _ rfl h ⟨6, .data⟩ (by simp) rfl) h6
              have h16 : L 16 = false := Pkt.no_of (fun h => hcl 15 _ rfl (hcl 16 _ rfl h ⟨15, .data⟩ (by simp) rfl) ⟨14, .data⟩ (by simp) rfl) h14
              have hW2 : Pkt.FwA U p.2 c0 x (L 0) (L 6) (L 13) (L 14) (L 16) w' := hW
              rw [hi, h6, h14, h16] at hW2
              exact Ord.ex_letter x { x with a := .slice (some ⟨w'.heap.size, 0, none⟩) 0 0 } rfl rfl (Pkt.r_bs0 rfl) rfl (fun j hj => match j, hj with | 0, hj => absurd hj (by rw [hi]; decide) | 1, _ => rfl | 2, _ => rfl | 3, _ => rfl | 4, _ => rfl | 5, _ => rfl | 6, _ => rfl | 7, _ => rfl | 8, _ => rfl | 9, _ => rfl | 10, _ => rfl | 11, _ => rfl | 12, _ => rfl | 13, _ => rfl | 14, _ => rfl | 15, _ => rfl | 16, _ => rfl | 17, _ => rfl | 18, _ => rfl | 19, _ => rfl | 20, _ => rfl | 21, _ => rfl | _ + 22, _ => rfl) (by show Pkt.FwA U p.2 c0 _ true (L 6) (L 13) (L 14) (L 16) _; rw [h6, h14, h16]; exact hW2.s0)
            | 1, ho, hi, hdep =>
              cases ho
              have da0 : ac.eval (.tmp 5) = .slice (some ⟨g, 0, none⟩) R.length vcap := hF.old 5 rfl
              exact Ord.ex_value x rfl rfl (Pkt.q_mv _ rfl da0) rfl hW
            | 2, ho, hi, hdep =>
              cases ho
              have da0 : ac.eval (.tmp 8) = .int .i64 (k : Int) := hF.old 8 rfl
              exact Ord.ex_value x rfl rfl (Pkt.q_mv _ rfl da0) rfl hW
            | 3, ho, hi, hdep =>
              cases ho
              have da0 : ac.eval (.tmp 63) = .int .i64 (k : Int) := hF.2.2.2 2 63 _ rfl (hdep ⟨2, .data⟩ (by simp) rfl)
              exact Ord.ex_value x rfl rfl (Pkt.r_dec _ da0 (by omega) rfl) rfl hW
            | 4, ho, hi, hdep =>
              cases ho
              have da0 : ac.eval (.tmp 62) = .slice (some ⟨g, 0, none⟩) R.length vcap := hF.2.2.2 1 62 _ rfl (hdep ⟨1, .data⟩ (by simp) rfl)
              have da1 : ac.eval (.tmp 64) = .int .i64 ((k : Int) - 1) := hF.2.2.2 3 64 _ rfl (hdep ⟨3, .data⟩ (by simp) rfl)
              exact Ord.ex_value x rfl rfl (Pkt.r_ixL _ _ da0 da1 HI5.out (by omega) rfl) rfl hW
            | 5, ho, hi, hdep =>
              cases ho
              have da0 : ac.eval (.tmp 65) = .pointer (some ⟨g, k - 1, none⟩) := hF.2.2.2 4 65 _ rfl (hdep ⟨4, .data⟩ (by simp) rfl)
              exact Ord.ex_value x rfl rfl (Pkt.r_ldR _ da0 rfl ((hW.1.cell (Par.cell_lt C2.out)).trans C2.out)) rfl hW
            | 6, ho, hi, hdep =>
              cases ho
              have da0 : ac.eval (.tmp 61) = x.a := hF.2.2.2 0 61 _ rfl (hdep ⟨0, .data⟩ (by simp) rfl)
              have da1 : ac.eval (.tmp 66) = .slice (some ⟨ph, 0, none⟩) p.2.length pc := hF.2.2.2 5 66 _ rfl (hdep ⟨5, .data⟩ (by simp) rfl)
              have h0 : L 0 = true := hdep ⟨0, .data⟩ (by simp) rfl
              have h14 : L 14 = false := Pkt.no_of (fun h => hcl 14 _ rfl h ⟨6, .data⟩ (by simp) rfl) hi
              have h16 : L 16 = false := Pkt.no_of (fun h => hcl 15 _ rfl (hcl 16 _ rfl h ⟨15, .data⟩ (by simp) rfl) ⟨14, .data⟩ (by simp) rfl) h14
              have hW2 : Pkt.FwA U p.2 c0 x (L 0) (L 6) (L 13) (L 14) (L 16) w' := hW
              rw [h0, hi, h14, h16] at hW2
              obtain ⟨v', w2, hr, hA2⟩ := hW2.s6 (pa := none) (cap := pc) HKP.out hppos hplen 24
              exact Ord.ex_letter x { x with b := v' } rfl rfl (Pkt.r_ap _ _ da0 da1 rfl hr) rfl (fun j hj => match j, hj with | 0, _ => rfl | 1, _ => rfl | 2, _ => rfl | 3, _ => rfl | 4, _ => rfl | 5, _ => rfl | 6, hj => absurd hj (by rw [hi]; decide) | 7, _ => rfl | 8, _ => rfl | 9, _ => rfl | 10, _ => rfl | 11, _ => rfl | 12, _ => rfl | 13, _ => rfl | 14, _ => rfl | 15, _ => rfl | 16, _ => rfl | 17, _ => rfl | 18, _ => rfl | 19, _ => rfl | 20, _ => rfl | 21, _ => rfl | _ + 22, _ => rfl) (by show Pkt.FwA U p.2 c0 _ (L 0) true (L 13) (L 14) (L 16) _; rw [h0, h14, h16]; exact hA2)
            | 7, ho, hi, hdep =>
              cases ho
              have da0 : ac.eval (.tmp 5) = .slice (some ⟨g, 0, none⟩) R.length vcap := hF.old 5 rfl
              exact Ord.ex_value x rfl rfl (Pkt.q_mv _ rfl da0) rfl hW
            | 8, ho, hi, hdep =>
              cases ho
              have da0 : ac.eval (.tmp 8) = .int .i64 (k : Int) := hF.old 8 rfl
              exact Ord.ex_value x rfl rfl (Pkt.q_mv _ rfl da0) rfl hW
            | 9, ho, hi, hdep =>
              cases ho
              have da0 : ac.eval (.tmp 68) = .slice (some ⟨g, 0, none⟩) R.length vcap := hF.2.2.2 7 68 _ rfl (hdep ⟨7, .data⟩ (by simp) rfl)
              have da1 : ac.eval (.tmp 69) = .int .i64 (k : Int) := hF.2.2.2 8 69 _ rfl (hdep ⟨8, .data⟩ (by simp) rfl)
              exact Ord.ex_value x rfl rfl (Pkt.r_ixL _ _ da0 da1 rfl hlt rfl) rfl hW
            | 10, ho, hi, hdep =>
              cases ho
              have da0 : ac.eval (.tmp 70) = .pointer (some ⟨g, k, none⟩) := hF.2.2.2 9 70 _ rfl (hdep ⟨9, .data⟩ (by simp) rfl)
              exact Ord.ex_value x rfl rfl (Pkt.r_ldR _ da0 rfl ((hW.1.cell (Par.cell_lt C1.out)).trans C1.out)) rfl hW
            | 11, ho, hi, hdep =>
              cases ho
              have da0 : ac.eval (.tmp 71) = .slice (some ⟨hh, 0, none⟩) r.2.length rc := hF.2.2.2 10 71 _ rfl (hdep ⟨10, .data⟩ (by simp) rfl)
              exact Ord.ex_value x rfl rfl (Pkt.r_ix0 _ da0 hpos rfl) rfl hW
            | 12, ho, hi, hdep =>
              cases ho
              have da0 : ac.eval (.tmp 72) = .pointer (some ⟨hh, 0, none⟩) := hF.2.2.2 11 72 _ rfl (hdep ⟨11, .data⟩ (by simp) rfl)
              exact Ord.ex_value x rfl rfl (Pkt.r_ldC _ da0 rfl (L0.out _ hW.1)) rfl hW
            | 13, ho, hi, hdep =>
              cases ho
              have da0 : ac.eval (.tmp 73) = Chu.cv c0 := hF.2.2.2 12 73 _ rfl (hdep ⟨12, .data⟩ (by simp) rfl)
              have h14 : L 14 = false := Pkt.no_of (fun h => hcl 14 _ rfl h ⟨13, .data⟩ (by simp) rfl) hi
              have h16 : L 16 = false := Pkt.no_of (fun h => hcl 15 _ rfl (hcl 16 _ rfl h ⟨15, .data⟩ (by simp) rfl) ⟨14, .data⟩ (by simp) rfl) h14
              have hW2 : Pkt.FwA U p.2 c0 x (L 0) (L 6) (L 13) (L 14) (L 16) w' := hW
              rw [hi, h14, h16] at hW2
              exact Ord.ex_letter x { x with c := .slice (some ⟨w'.heap.size, 0, none⟩) 1 1 } rfl rfl (Pkt.r_bs1 _ da0 rfl) rfl (fun j hj => match j, hj with | 0, _ => rfl | 1, _ => rfl | 2, _ => rfl | 3, _ => rfl | 4, _ => rfl | 5, _ => rfl | 6, _ => rfl | 7, _ => rfl | 8, _ => rfl | 9, _ => rfl | 10, _ => rfl | 11, _ => rfl | 12, _ => rfl | 13, hj => absurd hj (by rw [hi]; decide) | 14, _ => rfl | 15, _ => rfl | 16, _ => rfl | 17, _ => rfl | 18, _ => rfl | 19, _ => rfl | 20, _ => rfl | 21, _ => rfl | _ + 22, _ => rfl) (by show Pkt.FwA U p.2 c0 _ (L 0) (L 6) true (L 14) (L 16) _; rw [h14, h16]; exact hW2.s13)
            | 14, ho, hi, hdep =>
              cases ho
              have da0 : ac.eval (.tmp 67) = x.b := hF.2.2.2 6 67 _ rfl (hdep ⟨6, .data⟩ (by simp) rfl)
              have da1 : ac.eval (.tmp 74) = x.c := hF.2.2.2 13 74 _ rfl (hdep ⟨13, .data⟩ (by simp) rfl)
              have h6 : L 6 = true := hdep ⟨6, .data⟩ (by simp) rfl
              have h13 : L 13 = true := hdep ⟨13, .data⟩ (by simp) rfl
              have h0 : L 0 = true := hcl 6 _ rfl h6 ⟨0, .data⟩ (by simp) rfl
              have h14 : L 14 = false := hi
              have h16 : L 16 = false := Pkt.no_of (fun h => hcl 15 _ rfl (hcl 16 _ rfl h ⟨15, .data⟩ (by simp) rfl) ⟨14, .data⟩ (by simp) rfl) h14
              have hW2 : Pkt.FwA U p.2 c0 x (L 0) (L 6) (L 13) (L 14) (L 16) w' := hW
              rw [h0, h6, h13, h14, h16] at hW2
              obtain ⟨v', w2, hr, hA2⟩ := hW2.s14 hplen 24
              exact Ord.ex_letter x { x with d := v' } rfl rfl (Pkt.r_ap _ _ da0 da1 rfl hr) rfl (fun j hj => match j, hj with | 0, _ => rfl | 1, _ => rfl | 2, _ => rfl | 3, _ => rfl | 4, _ => rfl | 5, _ => rfl | 6, _ => rfl | 7, _ => rfl | 8, _ => rfl | 9, _ => rfl | 10, _ => rfl | 11, _ => rfl | 12, _ => rfl | 13, _ => rfl | 14, hj => absurd hj (by rw [hi]; decide) | 15, hj => absurd (hcl 15 _ rfl hj ⟨14, .data⟩ (by simp) rfl) (by rw [hi]; decide) | 16, _ => rfl | 17, _ => rfl | 18, _ => rfl | 19, _ => rfl | 20, _ => rfl | 21, _ => rfl | _ + 22, _ => rfl) (by show Pkt.FwA U p.2 c0 _ (L 0) (L 6) (L 13) true (L 16) _; rw [h0, h6, h13, h16]; exact hA2)
            | 15, ho, hi, hdep =>
              cases ho
              have da0 : ac.eval (.tmp 75) = x.d := hF.2.2.2 14 75 _ rfl (hdep ⟨14, .data⟩ (by simp) rfl)
              have hx14 : L 14 = true := hdep ⟨14, .data⟩ (by simp) rfl
              obtain ⟨da, dcap, e5, _⟩ := Pkt.own_lies (hW.2.2.2.2.1 hx14)
              exact Ord.ex_value x rfl rfl (Pkt.r_bpk _ da0 rfl ⟨da, _, dcap, e5⟩) rfl hW
            | 16, ho, hi, hdep =>
              cases ho
              have da0 : ac.eval (.tmp 76) = .agg #[.int .u16 1, .int .u16 1, .int .u32 0, x.d] := hF.2.2.2 15 76 _ rfl (hdep ⟨15, .data⟩ (by simp) rfl)
              have h14 : L 14 = true := hcl 15 _ rfl (hdep ⟨15, .data⟩ (by simp) rfl) ⟨14, .data⟩ (by simp) rfl
              have h6 : L 6 = true := hcl 14 _ rfl h14 ⟨6, .data⟩ (by simp) rfl
              have h13 : L 13 = true := hcl 14 _ rfl h14 ⟨13, .data⟩ (by simp) rfl
              have h0 : L 0 = true := hcl 6 _ rfl h6 ⟨0, .data⟩ (by simp) rfl
              have hW2 : Pkt.FwA U p.2 c0 x (L 0) (L 6) (L 13) (L 14) (L 16) w' := hW
              rw [h0, h6, h13, h14, hi] at hW2
              obtain ⟨da, dcap, e5, hok⟩ := hW2.pk HPC.out hplen
              rw [e5] at da0
              have EN := Pkt.encode 0 w' _ hok (HTU.out.later hW2.1 HTU.out.pos)
              simp only [Pkt.pkv, Pkt.pkc] at EN
              have h17 : L 17 = false := Pkt.no_of (fun h => hcl 17 _ rfl h ⟨16, .data⟩ (by simp) rfl) hi
              have h18 : L 18 = false := Pkt.no_of (fun h => hcl 18 _ rfl h ⟨17, .data⟩ (by simp) rfl) h17
              have h19 : L 19 = false := Pkt.no_of (fun h => hcl 19 _ rfl h ⟨17, .data⟩ (by simp) rfl) h17
              have h20 : L 20 = false := Pkt.no_of (fun h => hcl 20 _ rfl h ⟨18, .data⟩ (by simp) rfl) h18
              have h21 : L 21 = false := Pkt.no_of (fun h => hcl 21 _ rfl h ⟨19, .data⟩ (by simp) rfl) h19
              refine Pkt.ex_call2 x rfl rfl (Pkt.r_enc _ da0 rfl) (Calls.mono EN ?_)
              rintro e w2 ⟨v, er, rfl, hE⟩
              exact ⟨{ x with v := v, er := er }, rfl, (fun j hj => match j, hj with | 0, _ => rfl | 1, _ => rfl | 2, _ => rfl | 3, _ => rfl | 4, _ => rfl | 5, _ => rfl | 6, _ => rfl | 7, _ => rfl | 8, _ => rfl | 9, _ => rfl | 10, _ => rfl | 11, _ => rfl | 12, _ => rfl | 13, _ => rfl | 14, _ => rfl | 15, _ => rfl | 16, hj => absurd hj (by rw [hi]; decide) | 17, hj => absurd hj (by rw [h17]; decide) | 18, hj => absurd hj (by rw [h18]; decide) | 19, hj => absurd hj (by rw [h19]; decide) | 20, hj => absurd hj (by rw [h20]; decide) | 21, hj => absurd hj (by rw [h21]; decide) | _ + 22, _ => rfl), (by show Pkt.FwA U p.2 c0 _ (L 0) (L 6) (L 13) (L 14) true _; rw [h0, h6, h13, h14]; exact hW2.s16 rfl rfl rfl hE)⟩
            | 17, ho, hi, hdep =>
              cases ho
              have da0 : ac.eval (.tmp 77) = .tuple #[x.v, .int .i64 x.er] := hF.2.2.2 16 77 _ rfl (hdep ⟨16, .data⟩ (by simp) rfl)
              exact Ord.ex_value x rfl rfl (Pkt.q_mv _ rfl da0) rfl hW
            | 18, ho, hi, hdep =>
              cases ho
              have da0 : ac.eval (.tmp 60) = .tuple #[x.v, .int .i64 x.er] := hF.2.2.2 17 60 _ rfl (hdep ⟨17, .data⟩ (by simp) rfl)
              exact Ord.ex_value x rfl rfl (Pkt.r_ex0 _ da0 rfl) rfl hW
            | 19, ho, hi, hdep =>
              cases ho
              have da0 : ac.eval (.tmp 60) = .tuple #[x.v, .int .i64 x.er] := hF.2.2.2 17 60 _ rfl (hdep ⟨17, .data⟩ (by simp) rfl)
              exact Ord.ex_value x rfl rfl (Pkt.r_ex1 _ da0 rfl) rfl hW
            | 20, ho, hi, hdep =>
              cases ho
              have da0 : ac.eval (.tmp 78) = x.v := hF.2.2.2 18 78 _ rfl (hdep ⟨18, .data⟩ (by simp) rfl)
              exact Ord.ex_value x rfl rfl (Pkt.r_as _ da0 rfl) rfl hW
            | 21, ho, hi, hdep =>
              cases ho
              have da0 : ac.eval (.tmp 79) = .int .i64 x.er := hF.2.2.2 19 79 _ rfl (hdep ⟨19, .data⟩ (by simp) rfl)
              exact Ord.ex_value x rfl rfl (Pkt.r_as _ da0 rfl) rfl hW
          case refine_3 => exact ⟨(Below.refl _ _).drew, (fun e => by cases e), (fun e => by cases e), (fun e => by cases e), (fun e => by cases e), (fun e => by cases e)⟩
          intro x w3 hW
          simp only [Ord.puts, Ord.prs]
          go_simp
          obtain ⟨hw1, _, _, _, _, hA⟩ := hW
          obtain ⟨q1, q2, q3⟩ := hA rfl
          obtain ⟨xa, xb, xc, xd, xv, xer⟩ := x
          simp only at q1 q2 q3 ⊢
          have HUX := hidden (HUW.out.trans (hw1.mono HUW.out.size))
          clear HUW hw1 hA i5 L0 C1 C2 HKP HPC HTU
          have HUW := HUX
          clear HUX
          by_cases hx0 : xer = 0
          · obtain ⟨xva, xcap, rfl⟩ := q3 hx0
            have hlong := HME.out _ q1 hx0
            subst hx0
            clear q1 q2 q3
            have i7 : ¬ (((12 + Chu.tot ((p.2 ++ [c0]).map Chu.val) : Nat) : Int)) ≤ a0 := by omega
            generalize 12 + Chu.tot ((p.2 ++ [c0]).map Chu.val) = N12 at i7 ⊢
            clear hlong
            have HBA := hidden (HB.out.trans (HUW.out.mono HB.out.size))
            have HAL2 := hidden (Pkt.ownLater HAL.out HUW.out)
            have hc15 := ((HUW.out.cell (Par.cell_lt C0.out)).trans C0.out)
            have HNW := hidden (Pkt.lies_news (HK1.out.later HUW.out).2.2.2)
            have hsA : wA.heap.size ≤ w3.heap.size := HBA.out.size
            clear HUW HAL HB
            go_wp2_with (at_builtin; refine Chu.wpList_append_at rfl _ _ 24 rfl wA.heap.size 59 i0 (Chu.cv (Chu.zck 0)) Tryz.underlying24 hi hz0 (by rw [hz1]; rfl) (by rw [hz1]; decide) _ _ _ rfl (by rw [hz1]; exact HAL2.out) ⟨hh, 0, none⟩ r.2.length rc (Chu.ccs r.2) rfl (by rw [hz1]; exact Chu.ccs_len r.2) HNW.out (Pkt.ccs_cells r.2) hpos (by unfold maxLen; omega) (by first | omega | (rw [hz2]; omega)) hsA ?_)
            intro v3 w3 ho3 hg3 hw3
            have HBN := hidden (HBA.out.grown hg3 hsA (fun b hb => (HAL2.out.lt b hb).1))
            have HON := hidden (show w3.ownsRow wA.heap.size 59 15 v3 (Pkt.fl R (k + 1)).length (Chu.ccs (Pkt.fl R (k + 1))) by
              rw [Pkt.fl_succ HRK.out, List.length_append, show Chu.ccs (Pkt.fl R k ++ r.2) = Chu.ccs (Pkt.fl R k) ++ Chu.ccs r.2 from List.flatMap_append]
              exact ho3)
            clear ho3 hg3 hw3
            go_wp2
            go_roundw
            case rel => exact ⟨k + 1, by omega, by go_num, HON.out, HBN.out⟩
            case measure => simp [intOf]; omega
          · obtain rfl := q2 hx0
            clear q1 q2 q3
            have HBA := hidden (HB.out.trans (HUW.out.mono HB.out.size))
            have HAL2 := hidden (Pkt.ownLater HAL.out HUW.out)
            have hc15 := ((HUW.out.cell (Par.cell_lt C0.out)).trans C0.out)
            have HNW := hidden (Pkt.lies_news (HK1.out.later HUW.out).2.2.2)
            have hsA : wA.heap.size ≤ w3.heap.size := HBA.out.size
            clear HUW HAL HB
            go_wp2_with (at_builtin; refine Chu.wpList_append_at rfl _ _ 24 rfl wA.heap.size 59 i0 (Chu.cv (Chu.zck 0)) Tryz.underlying24 hi hz0 (by rw [hz1]; rfl) (by rw [hz1]; decide) _ _ _ rfl (by rw [hz1]; exact HAL2.out) ⟨hh, 0, none⟩ r.2.length rc (Chu.ccs r.2) rfl (by rw [hz1]; exact Chu.ccs_len r.2) HNW.out (Pkt.ccs_cells r.2) hpos (by unfold maxLen; omega) (by first | omega | (rw [hz2]; omega)) hsA ?_)
            intro v3 w3 ho3 hg3 hw3
            have HBN := hidden (HBA.out.grown hg3 hsA (fun b hb => (HAL2.out.lt b hb).1))
            have HON := hidden (show w3.ownsRow wA.heap.size 59 15 v3 (Pkt.fl R (k + 1)).length (Chu.ccs (Pkt.fl R (k + 1))) by
              rw [Pkt.fl_succ HRK.out, List.length_append, show Chu.ccs (Pkt.fl R k ++ r.2) = Chu.ccs (Pkt.fl R k) ++ Chu.ccs r.2 from List.flatMap_append]
              exact ho3)
            clear ho3 hg3 hw3
            go_wp2
            go_roundw
            case rel => exact ⟨k + 1, by omega, by go_num, HON.out, HBN.out⟩
            case measure => simp [intOf]; omega
      · obtain rfl : k = R.length := by omega
        have hfe : Pkt.fl R R.length = R.flatMap (·.2) := by unfold Pkt.fl; rw [List.take_length]
        obtain ⟨la', lcap', e5, hli, _⟩ := Pkt.own_lies hal
        cases e5
        have hR3 := HR.out.later hb
        have hck : Chu.Cks 0 wr la (Pkt.fl R R.length).length (Pkt.fl R R.length) := ⟨rfl, by omega, fun c hc => by
          obtain ⟨r, hr, hcr⟩ := Pkt.fl_mem hc
          exact Pkt.chk_mono (hR3.2.2.2 r hr c hcr).1 (Nat.zero_le _), hli.mono (Nat.zero_le _)⟩
        have HB := hidden (B1.out.trans (hb.mono B1.out.size))
        have SC := hidden (Pkt.rSameChunks 0 0 wr la a1 _ len1 lcap cap1 _ z1 hck (W1.out.later HB.out))
        have HSM : Hid ((Pkt.fl R R.length).map Chu.val = z1.map Chu.val) := hidden (by rw [hfe]; exact HTL.out)
        clear hck hli hal hb hR3 hfe
        go_wp2_with fail
        refine Calls.mono SC.out ?_
        rintro e w4 ⟨t, rfl, ht, b4⟩
        obtain rfl : t = true := ht.2 HSM.out
        have HB4 := hidden (HB.out.trans (b4.mono HB.out.size))
        clear SC ht b4
        go_wp2_with fail
        refine Calls.mono (Pkt.alive w4 (HT.out.later HB4.out HT.out.pos)) ?_
        rintro e w6 ⟨rfl, b6⟩
        have HB6 := hidden (HB4.out.trans (b6.mono HB4.out.size))
        clear b6
        go_wp2
        go_ret
        exact ⟨rfl, HB6.out⟩
  · have e1 := HO.out.2.2.1 he
    have r1 : R = [] := by simpa [Pkt.rvs] using e1
    subst r1
    clear HO e1
    simp only [List.length_nil]
    go_wp2_with fail
    refine Calls.mono (Pkt.alive wA (HT.out.later B1.out HT.out.pos)) ?_
    rintro e w6 ⟨rfl, b6⟩
    have HB6 := hidden (B1.out.trans (b6.mono B1.out.size))
    clear b6
    go_wp2
    go_ret
    exact ⟨rfl, HB6.out⟩

set_option maxRecDepth 100000 in
theorem contract (H : Type) (enc : TypeId × Value → H) (W : World) (base : Nat) (args : Array Value) (ds gs : List (DataW H)) (before : List MemPlace)
    (hval : ∀ (j : Nat) t v, Tryz.f7.params[j]? = some t → args[j]? = some v → Value.okWide Tryz.prog W .any base t v)
    (hW : DataW.Whole enc Tryz.prog Tryz.f7.params.toList Rows.packetFewSpec.vars false W args.toList ds gs before)
    (hsz0 : (DataW.weightsEach Tryz.prog (Tryz.f7.params.toList ++ Rows.packetFewSpec.plain.varTypes Tryz.prog) (ds ++ gs)).all (· ≤ reachBytes) = true)
    (hL : laidMetH Tryz.prog Rows.packetFewRow.laid W) :
    Calls Tryz.prog 7 args W fun e W' => ∃ v, e = .returned v ∧ Rows.packetFewSpec.post enc Tryz.prog Tryz.f7 false true false false W args v W' := by
  have hW' := hW
  obtain ⟨p, q, hA0, hV, rfl, hfz, hnd⟩ := hW
  have hA : DataW.TrodAll enc Tryz.prog W 0 (fun _ => true) true Tryz.f7.params.toList args.toList ds p := hA0
  have hsz := hsz0
  rw [Tryz.params7] at hA hval hsz
  obtain ⟨v0, vs0, d0, ds0, p0, q0, hargs, rfl, rfl, h0, r0⟩ := trodAll_cons hA
  obtain ⟨v1, vs1, d1, ds1, p1, q1, rfl, rfl, rfl, h1, r1⟩ := trodAll_cons r0
  obtain ⟨rfl, rfl, rfl⟩ := trodAll_nil r1
  obtain rfl : args = #[v0, v1] := by cases args; simp_all
  obtain ⟨rfl, rfl⟩ := trodVars_none hV
  obtain ⟨a0, rfl, rfl, rfl, w0⟩ := open_int Tryz.underlying3 (hval 0 3 v0 rfl rfl) h0
  obtain ⟨a1, len1, cap1, rfl⟩ := okWide_slice Tryz.underlying24 (hval 1 24 v1 rfl rfl)
  have k1 := h1
  have lt1 : ∀ x ∈ p1, x.block < W.heap.size := by obtain ⟨m, hm⟩ := k1; exact DataW.trod_lt m _ _ _ hm
  have sz1 : (d1.weights Tryz.prog 24).all (· ≤ reachBytes) = true := List.all_eq_true.2 fun m hm => List.all_eq_true.1 hsz m (DataW.weights_mem_each (j := 1) rfl rfl m hm)
  have t1 : len1 * 152 ≤ 140737488351232 := by
    obtain ⟨fuel, hf⟩ := h1
    exact Pkt.chunks_len hf sz1
  obtain ⟨z1, w1, s1⟩ : ∃ l, Chu.Cks 0 W a1 len1 l ∧ ∀ c ∈ l, c.bl ≤ 140737488351232 := by
    obtain ⟨fuel, hf⟩ := h1
    exact Chu.chunks_arg' hf sz1
  clear hA0 hsz0 hsz
  refine (walk a0 a1 len1 cap1 z1 W w0 w1 s1 t1 (table hL)).mono fun e W' ⟨he, bel⟩ => ?_
  subst he
  exact ⟨_, rfl, _, _, _, [], _, [], hW', trodAll_mk1 (shut_bool Tryz.underlying4 _), (trodAll_cons_mk (shut_int Tryz.underlying3 w0) (trodAll_cons_mk (Below.trod laidOut (by kernel_rfl) (of_decide_eq_true (by kernel_rfl)) k1 bel lt1) trodAll_mk0)), rfl, bel.frame _, fun h => by cases h⟩

noncomputable def laidWorld (os : Os) : World :=
  { World.holding Tryz.prog os ⟨#[], #[], []⟩ with heap := (World.holding Tryz.prog os ⟨#[], #[], []⟩).heap.modify 0 fun
      | .cells _ t frozen => .cells #[.int .u32 0, .int .u32 274646895, .int .u32 549293790, .int .u32 820201905, .int .u32 1098587580, .int .u32 1361435347, .int .u32 1640403810, .int .u32 1905808397, .int .u32 2197175160, .int .u32 2460548119, .int .u32 2722870694, .int .u32 2987750089, .int .u32 3280807620, .int .u32 3553878443, .int .u32 3811616794, .int .u32 4084100981] t frozen
      | o => o }
set_option maxRecDepth 100000 in
theorem laid_met (os : Os) : laidMet Tryz.prog Rows.packetFewRow.laid ((laidWorld os).forCall (fun _ _ => 0) ⟨#[], #[.int .i64 0, .slice none 0 0], []⟩).memory :=
  laidMet_of_run' 8 (by kernel_rfl) (by kernel_rfl)
set_option maxRecDepth 100000 in
theorem reads (os : Os) {H : Type} (enc : TypeId × Value → H) : ∃ places, DataW.whole enc Tryz.prog ((laidWorld os).forCall (fun _ _ => 0) ⟨#[], #[.int .i64 0, .slice none 0 0], []⟩).memory Tryz.f7.params.toList Rows.packetFewSpec.vars false #[Value.int .i64 0, Value.slice none 0 0].toList 8 = some ([.lit (.int .i64 0), .nil], [], places) :=
  ⟨[], by kernel_rfl⟩

set_option maxRecDepth 100000 in
theorem lifted (os : Os) (started : os.Started) (H : Type) (enc : TypeId × Value → H) (F : Stop.Interp) :
    ReturnsInHanded {} Tryz.checked os 7 .any ((OpenSpec.ofChange Rows.packetFewSpec).preRow enc Tryz.prog Tryz.f7 Rows.packetFewRow.domain false Rows.packetFewRow.laid) (((OpenSpec.ofChange Rows.packetFewSpec).at F).post enc Tryz.prog Tryz.f7 false true false false) := by
  obtain ⟨places, hx⟩ := reads os enc
  refine returnsInHanded_of_row (C := Tryz.checked) (s := OpenSpec.ofChange Rows.packetFewSpec) own started (by kernel_rfl) Tryz.func7
    (witness_row_at (enc := enc) (C := Tryz.checked) false (laidWorld os) #[.int .i64 0, .slice none 0 0] rfl (by kernel_rfl) (by kernel_rfl) (by kernel_rfl)
      (OpenSpec.preRow_of_cond 8 hx (by kernel_rfl) (fun k hk => by cases hk) (by kernel_rfl) (laid_met os))) ?_
  intro W base args ds gs before hval hW _ hcond hsz hL _ _
  exact contract H enc W base args ds gs before hval hW hsz hL

theorem said : Rows.PacketFewSaid :=
  OpenClaim.holds_of_cond 7 Tryz.f7 rfl rfl rfl rfl rfl rfl rfl ⟨rfl, rfl, rfl, rfl, rfl⟩ rfl rfl rfl rfl rfl (by kernel_rfl) Tryz.func7 (by kernel_rfl)
    (of_decide_eq_true (by kernel_rfl)) (by unfold Func.isWrapper; first | (rw [if_pos (by decide +kernel)]; kernel_rfl) | (rw [if_neg (by decide +kernel)]; exact ⟨rfl, rfl⟩))
    (fun os started H enc _ F => by rw [OpenClaim.pre_eq_preRow]; exact lifted os started H enc F)

theorem plain (f : FuncId) (fn : Func) (hf : Tryz.pinned.checked.prog.funcNamed "ropewalk/ropewalklaw07.PacketFew" = some f) (hfn : Tryz.pinned.checked.prog.funcs[f]? = some fn) :
    true = Tryz.pinned.checked.prog.looks [] ∧ ∀ (j : Nat) t, fn.params[j]? = some t → Tryz.pinned.checked.prog.wantsStandIn t = false := by
  obtain rfl : f = 7 := Option.some.inj ((show Tryz.prog.funcNamed "ropewalk/ropewalklaw07.PacketFew" = some 7 by kernel_rfl).symm.trans hf) |>.symm
  obtain rfl : fn = Tryz.f7 := (Option.some.inj (Tryz.func7.symm.trans hfn)).symm
  refine ⟨by kernel_rfl, fun j t ht => ?_⟩
  rw [Tryz.params7] at ht
  have hm : t ∈ [3, 24] := by simpa using Array.mem_of_getElem? ht
  have hall : ∀ t ∈ [3, 24], Tryz.prog.wantsStandIn t = false := by
    intro t ht
    simp only [List.mem_cons, List.not_mem_nil, or_false] at ht
    rcases ht with rfl | rfl <;> kernel_rfl
  exact hall t hm

/-- THE CARD -/
theorem proved : Rows.PacketFewCardSaid :=
  Claim7.holds_tied_plain_at .later [] _ _ _ _ said (fun _ h => by cases h) (by kernel_rfl) (fun _ h => by cases h) packetFew_row_tie rfl ⟨rfl, rfl⟩ (by kernel_rfl) rfl plain (by kernel_rfl)
#print axioms proved
end Go.Proofs.YtmnndkhdekpecaaGreatDoor.packetFew
