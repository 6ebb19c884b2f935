/-
  The document's order and its next path.
  Conditions: as at each lemma.
-/
import Derived.Test.YtcflcibncbipbaaScK
namespace Go.Proofs.Ytcflcibncbipbaa.Sc
open Go.ChangeShapes Go.WideShapes Go.ChangeAt Go.RowKit Go.Sort Go.Lib
open Ba (hidden Has Only)
open Ow (Own)
set_option linter.unusedVariables false

section
variable {w : World} {a : Option Addr} {n cap : Nat} {vs : List Vw}
theorem rorder_no (h : Vs w a n vs) (hc : ¬ chk vs = 0) (kind last : Int) : Calls Try.prog 9 #[.int .i64 kind, .int .i64 last, .slice a n cap] w fun e w' => RowO w w' e (oL kind last vs) (oE kind vs) := by
  rw [(o_no hc kind last).1, (o_no hc kind last).2]
  have CK := hidden (rcheck (cap := cap) h)
  generalize chk vs = C at *
  clear h
  go_enter Try.func9, Try.ntmps9
  go_wp2_with fail
  refine Calls.mono CK.out ?_
  rintro e w1 ⟨rfl, hB⟩
  have BE := hidden hB
  clear hB CK
  go_wp2
  go_ret2
  exact ⟨_, _, _, rfl, World.ownsRow_nil _ _ _ _, BE.out⟩
theorem rorder_out (h : Vs w a n vs) (hc : chk vs = 0) {kind : Int} (hk : ¬ (0 ≤ kind ∧ kind ≤ 2)) (last : Int) : Calls Try.prog 9 #[.int .i64 kind, .int .i64 last, .slice a n cap] w fun e w' => RowO w w' e (oL kind last vs) (oE kind vs) := by
  rw [(o_out hc hk last).1, (o_out hc hk last).2]
  have CK := hidden (rcheck (cap := cap) h)
  rw [hc] at CK
  clear h
  by_cases k0 : kind < 0
  · go_enter Try.func9, Try.ntmps9
    go_wp2_with fail
    refine Calls.mono CK.out ?_
    rintro e w1 ⟨rfl, hB⟩
    have BE := hidden hB
    clear hB CK
    go_wp2
    go_ret2
    exact ⟨_, _, _, rfl, World.ownsRow_nil _ _ _ _, BE.out⟩
  · have k2 : kind > 2 := by omega
    go_enter Try.func9, Try.ntmps9
    go_wp2_with fail
    refine Calls.mono CK.out ?_
    rintro e w1 ⟨rfl, hB⟩
    have BE := hidden hB
    clear hB CK
    go_wp2
    go_ret2
    exact ⟨_, _, _, rfl, World.ownsRow_nil _ _ _ _, BE.out⟩
theorem below_drewN2 {w w1 : World} (h : ∃ q, w1 = w.drewN q) : Below w.heap.size w w1 := by
  obtain ⟨q, rfl⟩ := h
  exact ⟨rfl, rfl, rfl, Nat.le_refl _, fun _ _ => rfl⟩
set_option maxHeartbeats 2000000 in
theorem rorder_ok (h : Vs w a n vs) (hc : chk vs = 0) {kind : Int} (hk : 0 ≤ kind ∧ kind ≤ 2) (last : Int) : Calls Try.prog 9 #[.int .i64 kind, .int .i64 last, .slice a n cap] w fun e w' => RowO w w' e (oL kind last vs) (oE kind vs) := by
  rw [(o_ok hc hk last).1, (o_ok hc hk last).2]
  obtain ⟨h8, hv⟩ := chk_0 hc
  have hl := h.len
  obtain ⟨b0, off0, rfl, hb0⟩ := Vs.open h (by omega)
  have CK := hidden (rcheck (cap := cap) h)
  rw [hc] at CK
  obtain ⟨f1, f2, f3⟩ := fit_wf vs
  have k0 : ¬ kind < 0 := by omega
  have k2 : ¬ kind > 2 := by omega
  have FQ : Hid (rfit vs = fit vs) := fit_eq hv
  have OQ : Hid (ord kind last vs = srt (lx (cst kind last vs)) (fit vs)) := rfl
  have LB : Hid (∀ z y : Int, 0 ≤ z → z < n → 0 ≤ y → y < n → bet kind last vs z.toNat y.toNat = lx (cst kind last vs) z y) := fun z y z0 z1 y0 y1 => by
    rw [bet_lx (by omega) (by omega) h8.2, Int.toNat_of_nonneg z0, Int.toNat_of_nonneg y0]
  have H := hidden h
  have H8 := hidden h8
  have HL := hidden hl
  have FW := hidden (And.intro f2 f3)
  clear h h8 hv hl hc hk f1 f2 f3
  generalize ord kind last vs = OV at *
  generalize lx (cst kind last vs) = LT at *
  go_enter Try.func9, Try.ntmps9
  go_wp2_with fail
  refine Calls.mono CK.out ?_
  rintro e w1 ⟨rfl, hB⟩
  have B1 := hidden hB
  clear hB CK
  go_wp2_with fail
  refine Calls.mono (rfit_ (cap := cap) (H.out.later B1.out) (by have := H8.out; have := HL.out; omega)) ?_
  rintro e w2 ⟨v, kf, rfl, hown, hB⟩
  rw [FQ.out] at hown
  have B2 := hidden (B1.out.trans (hB.mono B1.out.size))
  have hlf : (fit vs).length = kf := by have := hown.1; rw [lc_len] at this; omega
  obtain ⟨af, cf, e, NF⟩ := Nu.own hown (fun x hx => wf_in (by have := FW.out.1 x hx; have := H8.out; omega)) (by have := FW.out.2; have := H8.out; omega)
  subst e
  have NF := hidden NF
  have HLF := hidden hlf
  have HK : Hid (kf ≤ 8) := by show kf ≤ 8; have := FW.out.2; have := H8.out; omega
  have F0 := hidden (show w2.ownsRow w.heap.size 3 1 (.slice none 0 0) 0 (lc []) from World.ownsRow_nil _ _ _ _)
  clear hB hown hlf
  have hkf : kf ≤ 8 := HK.out
  go_wp2_with fail
  go_loopw [9, 11] (fun vo i wr => ∃ j : Nat, j ≤ kf ∧ i = .int .i64 (j : Int) ∧ Hid (Below w2.heap.size w2 wr) ∧ Hid (wr.ownsRow w.heap.size 3 1 vo j (lc (srt LT ((fit vs).take j))))) (fun _ i _ => kf - (intOf i).toNat)
  case atStart => exact ⟨0, by omega, rfl, Below.refl _ _, F0.out⟩
  case round =>
    clear F0
    obtain ⟨j, j2, rfl, BR, RO⟩ := hrel
    have BW : Hid (Below w.heap.size w wr) := B2.out.trans (BR.out.mono B2.out.size)
    by_cases hj : j < kf
    · have hjz : (j : Int) < (kf : Int) := by omega
      obtain ⟨bf, offf, rfl, hbf⟩ := Nu.open NF.out (by omega)
      obtain ⟨y, hy, cy⟩ := Nu.get (NF.out.later BR.out) (q := j) hj
      have hyin := FW.out.1 y (List.mem_of_getElem? hy)
      have SN : Hid (srt LT ((fit vs).take (j + 1)) = ins LT y (srt LT ((fit vs).take j))) := by
        show _ = _
        rw [List.take_add_one, hy]
        exact srt_more _ _ _
      have HYN : Hid (0 ≤ y ∧ y < n) := by have := HL.out; exact ⟨hyin.1, by omega⟩
      have OIN : Hid (∀ z ∈ srt LT ((fit vs).take j), 0 ≤ z ∧ z < n) := fun z hz => by
        have := FW.out.1 z (List.mem_of_mem_take ((srt_perm _ _).mem_iff.1 hz))
        have := HL.out
        omega
      have CY : Hid (∀ W, Below wr.heap.size wr W → W.cell? ⟨bf, offf + j, none⟩ = some (.int .i64 y) ∧ bf < W.heap.size) := fun W hW => by
        have e := BR.out.size
        exact ⟨keep_cell hW cy, Nat.lt_of_lt_of_le hbf (Nat.le_trans e hW.size)⟩
      clear hy hyin cy
      generalize srt LT ((fit vs).take j) = OUT at *
      obtain ⟨w3, rfl⟩ : ∃ w3, w3 = wr := ⟨wr, rfl⟩
      obtain ⟨ao, co, rfl⟩ := Ba.own_len RO.out
      have hlo : OUT.length = j := by have := RO.out.1; rw [lc_len] at this; omega
      have HLO := hidden hlo
      have HCO : Hid (j ≤ co) := by
        show j ≤ co
        rcases RO.out.2 with ⟨h1, h2⟩ | ⟨g, cap, cur, h1, _, _, h3, _⟩
        · cases h1; exact Nat.le_refl _
        · cases h1; exact h3
      clear hlo
      go_wp2_with fail
      go_loopw [12] (fun i wr2 => ∃ t : Nat, t ≤ j ∧ i = .int .i64 (t : Int) ∧ Hid ((OUT.take t).all (fun z => LT z y) = true) ∧ Hid (∃ q, wr2 = w3.drewN q)) (fun i _ => j - (intOf i).toNat)
      case atStart => exact ⟨0, by omega, rfl, rfl, 0, rfl⟩
      case round =>
        obtain ⟨t, t2, rfl, TA, HQ⟩ := hrel
        have D2 := hidden (below_drewN2 HQ.out)
        by_cases ht : t < j
        · have htz : (t : Int) < (j : Int) := by omega
          have c0 := (CY.out wr D2.out).1
          obtain ⟨g, cc, e, hg1, hg2, hg3, hg4⟩ := Ba.own_some RO.out (by omega)
          cases e
          obtain ⟨z, hz⟩ : ∃ z, OUT[t]? = some z := ⟨_, List.getElem?_eq_getElem (by have := HLO.out; omega)⟩
          have hcz : wr.cell? ⟨g, t, none⟩ = some (.int .i64 z) := by
            have := (row_below RO.out D2.out).cellAt t (by omega)
            rw [this, lc_get, hz]
            rfl
          have hzin := OIN.out _ (List.mem_of_getElem? hz)
          have TN : Hid ((OUT.take (t + 1)).all (fun z => LT z y) = LT z y) := by
            show _ = _
            rw [List.take_add_one, hz, List.all_append, TA.out]
            simp
          have TS : Hid (OUT[t]? = some z) := hz
          clear hz
          have HBt : Hid (∀ q, Calls Try.prog 26 #[.int .i64 kind, .int .i64 last, .slice (some ⟨b0, off0, none⟩) n cap, .int .i64 z, .int .i64 y] (wr.drewN q) fun e w' => e = .returned (.bool (LT z y)) ∧ ∃ q', w' = (wr.drewN q).drewN q') := fun q => by
            have := better (cap := cap) (H.out.later ((BW.out.trans (D2.out.mono BW.out.size)).trans (below_drewN2 ⟨q, rfl⟩ |>.mono (Nat.le_trans BW.out.size D2.out.size)))) hzin.1 hzin.2 HYN.out.1 HYN.out.2 kind last
            rw [LB.out z y hzin.1 hzin.2 HYN.out.1 HYN.out.2] at this
            exact this
          cases hlt : LT z y with
          | true =>
            rw [hlt] at HBt TN
            have HLT := hidden hlt
            clear hlt hzin
            go_wp2_with fail
            go_quiet ((first | (go_at_call 26; exact Calls.quiet_of (HBt.out _))))
            go_wp2
            go_roundw
            case rel => exact ⟨t + 1, by omega, by first | rfl | simp, TN.out, by obtain ⟨q, hq⟩ := HQ.out; exact ⟨_, by rw [hq, World.drewN_drewN]⟩⟩
            case measure => simp [intOf]; omega
          | false =>
            rw [hlt] at HBt
            have IA := hidden (ins_at TA.out (.inr ⟨z, TS.out, hlt⟩))
            clear hlt hzin TN
            go_wp2_with fail
            go_quiet ((first | (go_at_call 26; exact Calls.quiet_of (HBt.out _))))
            have D3 : Hid (Below w3.heap.size w3 (wr.drewN nq)) := below_drewN D2.out nq
            clear hcz c0 HBt
            generalize wr.drewN nq = W at *
            have hct : ¬ (co = t) := by omega
            have hco : t ≤ co := by omega
            have BWW : Hid (Below w.heap.size w W) := BW.out.trans (D3.out.mono BW.out.size)
            obtain ⟨v1, x1, v2, x2, v3, x3, hr1, b1, hr2, hr3, b3, ho3⟩ := put3 (t := t) (row_below RO.out D3.out) BWW.out.size (by omega) (fun z hz => wf_in (by have := OIN.out z hz; have := H8.out; have := HL.out; omega)) (by omega) y
            obtain ⟨d1, d1l⟩ := CY.out x1 (D3.out.trans (b1.mono D3.out.size))
            rw [← IA.out, ← SN.out] at ho3
            have R3 := hidden ho3
            have B3 : Hid (Below w2.heap.size w2 x3) := BR.out.trans ((D3.out.trans (b3.mono D3.out.size)).mono BR.out.size)
            rw [if_neg hct, show (some (⟨g, 0, none⟩ : Addr)).map (·.add t) = some ⟨g, t, none⟩ by simp [Go.WideShapes.add_plain]] at hr3
            have HR1 := hidden hr1
            have HR2 := hidden hr2
            have HR3 := hidden hr3
            clear hr1 hr2 hr3 b1 b3 ho3
            go_wp2_with (first | (at_builtin; refine Rg.wpList_app rfl (.tmp 53) (.tmp 56) 23 rfl rfl rfl HR1.out ?_; clear HR1) | (at_builtin; refine Rg.wpList_app rfl (.tmp 58) (.tmp 63) 23 rfl rfl rfl HR2.out ?_; clear HR2) | (at_builtin; refine Rg.wpList_app rfl (.tmp 65) (.tmp 68) 23 rfl rfl rfl HR3.out ?_; clear HR3) | go_in)
            go_wp2
            go_roundw
            case rel => exact ⟨j + 1, by omega, by first | rfl | simp, B3.out, R3.out⟩
            case measure => simp [intOf]; omega
        · obtain rfl : t = j := by omega
          have IA := hidden (ins_at TA.out (.inl HLO.out.symm))
          have D3 := D2
          go_wp2_with fail
          go_quiet (fail)
          have D4 : Hid (Below w3.heap.size w3 (wr.drewN nq)) := below_drewN D3.out nq
          clear D3
          have D3 := D4
          generalize wr.drewN nq = W at *
          have hco : t ≤ co := HCO.out
          by_cases hct : co = t
          · subst hct
            have BWW : Hid (Below w.heap.size w W) := BW.out.trans (D3.out.mono BW.out.size)
            obtain ⟨v1, x1, v2, x2, v3, x3, hr1, b1, hr2, hr3, b3, ho3⟩ := put3 (t := co) (row_below RO.out D3.out) BWW.out.size (by omega) (fun z hz => wf_in (by have := OIN.out z hz; have := H8.out; have := HL.out; omega)) (by omega) y
            obtain ⟨d1, d1l⟩ := CY.out x1 (D3.out.trans (b1.mono D3.out.size))
            rw [← IA.out, ← SN.out] at ho3
            have R3 := hidden ho3
            have B3 : Hid (Below w2.heap.size w2 x3) := BR.out.trans ((D3.out.trans (b3.mono D3.out.size)).mono BR.out.size)
            rw [if_pos rfl, Nat.sub_self] at hr3
            have HR1 := hidden hr1
            have HR2 := hidden hr2
            have HR3 := hidden hr3
            clear hr1 hr2 hr3 b1 b3 ho3
            go_wp2_with (first | (at_builtin; refine Rg.wpList_app rfl (.tmp 53) (.tmp 56) 23 rfl rfl rfl HR1.out ?_; clear HR1) | (at_builtin; refine Rg.wpList_app rfl (.tmp 58) (.tmp 63) 23 rfl rfl rfl HR2.out ?_; clear HR2) | (at_builtin; refine Rg.wpList_app rfl (.tmp 65) (.tmp 68) 23 rfl rfl rfl HR3.out ?_; clear HR3) | go_in)
            go_wp2
            go_roundw
            case rel => exact ⟨co + 1, by omega, by first | rfl | simp, B3.out, R3.out⟩
            case measure => simp [intOf]; omega
          · obtain ⟨g, rfl⟩ : ∃ g, ao = some ⟨g, 0, none⟩ := by
              rcases RO.out.2 with ⟨h1, h2⟩ | ⟨g, cap, cur, h1, _⟩
              · cases h1
                exact absurd rfl hct
              · cases h1
                exact ⟨g, rfl⟩
            have BWW : Hid (Below w.heap.size w W) := BW.out.trans (D3.out.mono BW.out.size)
            obtain ⟨v1, x1, v2, x2, v3, x3, hr1, b1, hr2, hr3, b3, ho3⟩ := put3 (t := t) (row_below RO.out D3.out) BWW.out.size (by omega) (fun z hz => wf_in (by have := OIN.out z hz; have := H8.out; have := HL.out; omega)) (by omega) y
            obtain ⟨d1, d1l⟩ := CY.out x1 (D3.out.trans (b1.mono D3.out.size))
            rw [← IA.out, ← SN.out] at ho3
            have R3 := hidden ho3
            have B3 : Hid (Below w2.heap.size w2 x3) := BR.out.trans ((D3.out.trans (b3.mono D3.out.size)).mono BR.out.size)
            rw [if_neg hct, show (some (⟨g, 0, none⟩ : Addr)).map (·.add t) = some ⟨g, t, none⟩ by simp [Go.WideShapes.add_plain], Nat.sub_self] at hr3
            have HR1 := hidden hr1
            have HR2 := hidden hr2
            have HR3 := hidden hr3
            clear hr1 hr2 hr3 b1 b3 ho3
            go_wp2_with (first | (at_builtin; refine Rg.wpList_app rfl (.tmp 53) (.tmp 56) 23 rfl rfl rfl HR1.out ?_; clear HR1) | (at_builtin; refine Rg.wpList_app rfl (.tmp 58) (.tmp 63) 23 rfl rfl rfl HR2.out ?_; clear HR2) | (at_builtin; refine Rg.wpList_app rfl (.tmp 65) (.tmp 68) 23 rfl rfl rfl HR3.out ?_; clear HR3) | go_in)
            go_wp2
            go_roundw
            case rel => exact ⟨t + 1, by omega, by first | rfl | simp, B3.out, R3.out⟩
            case measure => simp [intOf]; omega
    · obtain rfl : j = kf := by omega
      have RO1 := RO.out
      rw [List.take_of_length_le (by have := HLF.out; omega), ← OQ.out] at RO1
      obtain ⟨a1, c1, rfl⟩ := Ba.own_len RO1
      have R2 := hidden RO1
      clear RO1
      go_wp2
      go_ret2
      exact ⟨_, _, _, rfl, R2.out, BW.out⟩
theorem rorder (h : Vs w a n vs) (kind last : Int) : Calls Try.prog 9 #[.int .i64 kind, .int .i64 last, .slice a n cap] w fun e w' => RowO w w' e (oL kind last vs) (oE kind vs) := by
  by_cases hc : chk vs = 0
  · by_cases hk : 0 ≤ kind ∧ kind ≤ 2
    · exact rorder_ok h hc hk last
    · exact rorder_out h hc hk last
  · exact rorder_no h hc kind last
set_option maxHeartbeats 1000000 in
theorem rnext (h : Vs w a n vs) (kind last : Int) : Calls Try.prog 11 #[.int .i64 kind, .int .i64 last, .slice a n cap] w fun e w' => e = .returned (.tuple #[.int .i64 (nV kind last vs), .bool (nB kind last vs), .int .i64 (oE kind vs)]) ∧ Below w.heap.size w w' := by
  have OR := hidden (rorder (cap := cap) h kind last)
  cases hL : oL kind last vs with
  | nil =>
    rw [(n_nil hL).1, (n_nil hL).2]
    rw [hL] at OR
    generalize oE kind vs = E at *
    clear h hL
    by_cases hE : E = 0
    · subst hE
      go_enter Try.func11, Try.ntmps11
      go_wp2_with fail
      refine Calls.mono OR.out ?_
      rintro e w1 ⟨a1, k, c1, rfl, hown, hB⟩
      obtain rfl : k = 0 := by have := hown.1; simp [lc] at this; omega
      have BE := hidden hB
      clear hB hown OR
      go_wp2
      go_ret3
      exact ⟨rfl, BE.out⟩
    · go_enter Try.func11, Try.ntmps11
      go_wp2_with fail
      refine Calls.mono OR.out ?_
      rintro e w1 ⟨a1, k, c1, rfl, hown, hB⟩
      obtain rfl : k = 0 := by have := hown.1; simp [lc] at this; omega
      have BE := hidden hB
      clear hB hown OR
      go_wp2
      go_ret3
      exact ⟨rfl, BE.out⟩
  | cons x r =>
    rw [(n_cons hL).1, (n_cons hL).2.1, (n_cons hL).2.2]
    rw [hL, (n_cons hL).2.2] at OR
    clear h hL
    go_enter Try.func11, Try.ntmps11
    go_wp2_with fail
    refine Calls.mono OR.out ?_
    rintro e w1 ⟨a1, k, c1, rfl, hown, hB⟩
    obtain ⟨g, rfl, hk, c0⟩ := own_first hown
    have hkm : (k : Int) ≤ 9223372036854775807 := by
      have := (Ba.own_some hown hk)
      obtain ⟨_, _, e, _, _, h1, h2⟩ := this
      cases e
      simp only [maxLen] at h2
      omega
    have hk0 : ¬ ((k : Int) = 0) := by omega
    have BE := hidden hB
    clear hB hown OR
    go_wp2
    go_ret3
    exact ⟨rfl, BE.out⟩
end
end Go.Proofs.Ytcflcibncbipbaa.Sc
