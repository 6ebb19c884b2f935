/-
  The document's box takes a report.
  Conditions: the box lies in memory, the report's blocks can be read and are none of the box's.
-/
import Derived.Test.YtjceeckcfjjkkaaOeL
import Derived.Test.YtjceeckcfjjkkaaObX
import Derived.Deep.CutBlock
import Derived.Deep.CutRange
import Derived.Deep.LoopGhost
namespace Go.Proofs.Ytjceeckcfjjkkaa.Ob
open Go.ChangeShapes Go.WideShapes Go.ChangeAt Go.RowKit Go.Shelf
open Ba (hidden Has cell_lt heap_lt)
set_option linter.unusedVariables false
/-- what a report comes to -/
def RrO (D : Nat → Prop) (w w' : World) (r : Nat) (v : Value) (S : St) (q : Rq) (now : Int) (e : Ending) : Prop :=
  (repE S q now ≠ 0 ∧ e = .returned (.tuple #[.agg #[.slice none 0 0, .int .i64 0, .int .i64 0], .int .i64 (repE S q now)]) ∧ Below w.heap.size w w') ∨
  (repE S q now = 0 ∧ ∃ ap cap, S.n ≤ cap ∧ e = .returned (.tuple #[.agg #[.slice (some ⟨ap, 0, none⟩) S.n cap, .int .i64 (frV (tlS S q) (gdS S q) S.L), .int .i64 (rnV (tlS S q) S.L)], .int .i64 0]) ∧ w.heap.size ≤ ap ∧ Aw w' ap S.n (fun p => akV (tlS S q) (gdS S q) now S.L p) ∧ (∃ v' P', Ro D w' r v' P' S.n (repS S q).c (repS S q).L ∧ ∀ k, v'.ownBlock = some k → w.heap.size ≤ k) ∧ Mod (FD r v) w w')
section
variable {D F Q : Nat → Prop} {w w' X X' : World} {r : Nat} {v : Value} {P : List CV} {K : Nat} {L L' M : List Ch} {i g o : Nat} {x y : Ch} {S : St} {q : Rq} {c : Ck} {now : Int}
set_option maxRecDepth 8000 in
set_option maxHeartbeats 40000000 in
theorem r_report (h : Ro D w r v P S.n S.c S.L) (hG : Good K S) (hR : Rp Q w c q) (hQ : ∀ k, Q k → k < w.heap.size ∧ ¬ FD r v k) :
    Calls Try.prog 32 #[.pointer (some ⟨r, 0, none⟩), kv c, .int .i64 now] w fun e w' => RrO D w w' r v S q now e := by
  obtain ⟨W1, hW1⟩ : ∃ W1, W1 = (w.alloc (.cells (kcs c) 48)).alloc (.cells #[.slice none 0 0, .int .i64 0, .int .i64 0] 34) := ⟨_, rfl⟩
  have hO1 : Ow.Own w W1 [(w.heap.size + 1, #[.slice none 0 0, .int .i64 0, .int .i64 0], 34), (w.heap.size, kcs c, 48)] := by
    have := ((Ow.Own.refl w).alloc (kcs c) 48).alloc #[.slice none 0 0, .int .i64 0, .int .i64 0] 34
    simp only [World.size_alloc] at this
    rw [hW1]
    exact this
  have HO1 := hidden hO1
  have HN1 := hidden (h.later hO1.below)
  have HR1 := hidden (hR.later hO1.below)
  have HGG := hidden hG
  have HQF := hidden hQ
  have HFC : Hid (∀ k, FD r v k → k < w.heap.size) := fun k hk => h.lt hk
  have HTS : Hid (c.tsn = q.tsn) := hR.ts
  have HKD : Hid (c.kd = q.kd) := hR.kd
  have HQT : Hid (0 ≤ q.tsn ∧ q.tsn < 4294967296) := ⟨hR.t0, hR.t1⟩
  have HGL : Hid (Gn q.gs ∧ Gn q.ns ∧ q.gs.length ≤ 70368744177664 ∧ q.ns.length ≤ 70368744177664) := by
    obtain ⟨_, _, _, l1, n1, _⟩ := hR.g
    obtain ⟨_, _, _, l2, n2, _⟩ := hR.f
    exact ⟨n1, n2, l1, l2⟩
  unfold kcs at hW1
  have HW1 := hidden hW1
  have HLEN : Hid (S.L.length ≤ 1001) := by have := hG.len; have := hG.k; show _ ≤ _; omega
  have HNX : Hid (0 ≤ nextS S ∧ nextS S < 4294967296) := by show _ ∧ _; unfold nextS; omega
  clear h hG hR hQ hO1 hW1
  unfold kv kcs
  go_enter Try.func32, Try.ntmps32
  go_upto_region 1 with fail
  rw [← HW1.out]
  obtain ⟨b1, hb1⟩ : ∃ b1, b1 = !(decide (q.kd = 3 ∨ q.kd = 16) && ord (q.gs ++ q.ns)) := ⟨_, rfl⟩
  go_cut [37] from 300 (fun s wx => s = .bool b1 ∧ Hid (Below W1.heap.size W1 wx))
  case first =>
    rw [ord_append] at hb1
    have HB1 := hidden hb1
    have HOG := hidden (r_order HR1.out.g)
    have HNR := hidden (fun X => r_nr c X)
    have HOF := hidden (fun X hB => r_order (HR1.out.f.later (w' := X) hB))
    clear hb1
    have l0 := HO1.out.cell (b := w.heap.size) (List.mem_cons_of_mem _ (List.mem_cons_self ..)) 0 (v := .int .u8 c.kd) rfl
    have l1 := HO1.out.cell (b := w.heap.size) (List.mem_cons_of_mem _ (List.mem_cons_self ..)) 1 (v := .int .u8 c.fg) rfl
    have l2 := HO1.out.cell (b := w.heap.size) (List.mem_cons_of_mem _ (List.mem_cons_self ..)) 2 (v := .int .u32 c.tsn) rfl
    have l3 := HO1.out.cell (b := w.heap.size) (List.mem_cons_of_mem _ (List.mem_cons_self ..)) 3 (v := .int .u16 c.sm) rfl
    have l4 := HO1.out.cell (b := w.heap.size) (List.mem_cons_of_mem _ (List.mem_cons_self ..)) 4 (v := .int .u16 c.sn) rfl
    have l5 := HO1.out.cell (b := w.heap.size) (List.mem_cons_of_mem _ (List.mem_cons_self ..)) 5 (v := .int .u32 c.pr) rfl
    have l6 := HO1.out.cell (b := w.heap.size) (List.mem_cons_of_mem _ (List.mem_cons_self ..)) 6 (v := .int .u32 c.tag) rfl
    have l7 := HO1.out.cell (b := w.heap.size) (List.mem_cons_of_mem _ (List.mem_cons_self ..)) 7 (v := .int .u32 c.win) rfl
    have l8 := HO1.out.cell (b := w.heap.size) (List.mem_cons_of_mem _ (List.mem_cons_self ..)) 8 (v := .int .u16 c.out) rfl
    have l9 := HO1.out.cell (b := w.heap.size) (List.mem_cons_of_mem _ (List.mem_cons_self ..)) 9 (v := .int .u16 c.inn) rfl
    have l10 := HO1.out.cell (b := w.heap.size) (List.mem_cons_of_mem _ (List.mem_cons_self ..)) 10 (v := .slice c.ga c.gl c.gc) rfl
    have l11 := HO1.out.cell (b := w.heap.size) (List.mem_cons_of_mem _ (List.mem_cons_self ..)) 11 (v := .slice c.na c.nl c.nc) rfl
    have l12 := HO1.out.cell (b := w.heap.size) (List.mem_cons_of_mem _ (List.mem_cons_self ..)) 12 (v := .slice c.da c.dl c.dc) rfl
    have l13 := HO1.out.cell (b := w.heap.size) (List.mem_cons_of_mem _ (List.mem_cons_self ..)) 13 (v := .slice c.ba c.bl c.bc) rfl
    have l14 := HO1.out.cell (b := w.heap.size) (List.mem_cons_of_mem _ (List.mem_cons_self ..)) 14 (v := .slice c.pa c.pl c.pc) rfl
    have hkd := HKD.out
    by_cases h3 : q.kd = 3
    · rw [h3] at hkd
      rw [hkd] at l0
      have HD : Hid (decide (q.kd = 3 ∨ q.kd = 16) = true) := decide_eq_true (.inl h3)
      have KDE := hidden h3
      clear hkd h3
      go_wp2_with fail
      refine Calls.mono HOG.out ?_
      rintro e X2 ⟨rfl, hB2⟩
      have HBX := hidden hB2
      cases hog : ord q.gs with
      | false =>
        have HG := hidden hog
        clear hog hB2 l0 l1 l2 l3 l4 l5 l6 l7 l8 l9 l10 l11 l12 l13 l14
        go_wp2_with fail
        go_meet
        case rel => exact ⟨by rw [HB1.out, HD.out, HG.out]; rfl, HBX.out⟩
      | true =>
        have HG := hidden hog
        clear hog
        have k0 := (hB2.cell (cell_lt l0)).trans l0
        have k1 := (hB2.cell (cell_lt l1)).trans l1
        have k2 := (hB2.cell (cell_lt l2)).trans l2
        have k3 := (hB2.cell (cell_lt l3)).trans l3
        have k4 := (hB2.cell (cell_lt l4)).trans l4
        have k5 := (hB2.cell (cell_lt l5)).trans l5
        have k6 := (hB2.cell (cell_lt l6)).trans l6
        have k7 := (hB2.cell (cell_lt l7)).trans l7
        have k8 := (hB2.cell (cell_lt l8)).trans l8
        have k9 := (hB2.cell (cell_lt l9)).trans l9
        have k10 := (hB2.cell (cell_lt l10)).trans l10
        have k11 := (hB2.cell (cell_lt l11)).trans l11
        have k12 := (hB2.cell (cell_lt l12)).trans l12
        have k13 := (hB2.cell (cell_lt l13)).trans l13
        have k14 := (hB2.cell (cell_lt l14)).trans l14
        clear hB2 l0 l1 l2 l3 l4 l5 l6 l7 l8 l9 l10 l11 l12 l13 l14
        have NR := HNR.out X2
        unfold kv kcs at NR
        rw [show c.kd = 3 from HKD.out.trans KDE.out] at NR
        have NR := hidden NR
        go_wp2_with fail
        refine Calls.mono NR.out ?_
        rintro e X3 ⟨rfl, hB3⟩
        have HBX3 := hidden (HBX.out.trans (hB3.mono HBX.out.size))
        have OF := hidden (HOF.out X3 HBX3.out)
        clear hB3
        go_wp2_with fail
        refine Calls.mono OF.out ?_
        rintro e X4 ⟨rfl, hB4⟩
        have HBX4 := hidden (HBX3.out.trans (hB4.mono HBX3.out.size))
        clear hB4
        cases hof : ord q.ns with
        | false =>
          have HF := hidden hof
          clear hof
          go_wp2_with fail
          go_meet
          case rel => exact ⟨by rw [HB1.out, HD.out, HG.out, HF.out]; rfl, HBX4.out⟩
        | true =>
          have HF := hidden hof
          clear hof
          go_wp2_with fail
          go_meet
          case rel => exact ⟨by rw [HB1.out, HD.out, HG.out, HF.out]; rfl, HBX4.out⟩
    · by_cases h16 : q.kd = 16
      · rw [h16] at hkd
        rw [hkd] at l0
        have HD : Hid (decide (q.kd = 3 ∨ q.kd = 16) = true) := decide_eq_true (.inr h16)
        have KDE := hidden h16
        clear hkd h16 h3
        go_wp2_with fail
        refine Calls.mono HOG.out ?_
        rintro e X2 ⟨rfl, hB2⟩
        have HBX := hidden hB2
        cases hog : ord q.gs with
        | false =>
          have HG := hidden hog
          clear hog hB2 l0 l1 l2 l3 l4 l5 l6 l7 l8 l9 l10 l11 l12 l13 l14
          go_wp2_with fail
          go_meet
          case rel => exact ⟨by rw [HB1.out, HD.out, HG.out]; rfl, HBX.out⟩
        | true =>
          have HG := hidden hog
          clear hog
          have k0 := (hB2.cell (cell_lt l0)).trans l0
          have k1 := (hB2.cell (cell_lt l1)).trans l1
          have k2 := (hB2.cell (cell_lt l2)).trans l2
          have k3 := (hB2.cell (cell_lt l3)).trans l3
          have k4 := (hB2.cell (cell_lt l4)).trans l4
          have k5 := (hB2.cell (cell_lt l5)).trans l5
          have k6 := (hB2.cell (cell_lt l6)).trans l6
          have k7 := (hB2.cell (cell_lt l7)).trans l7
          have k8 := (hB2.cell (cell_lt l8)).trans l8
          have k9 := (hB2.cell (cell_lt l9)).trans l9
          have k10 := (hB2.cell (cell_lt l10)).trans l10
          have k11 := (hB2.cell (cell_lt l11)).trans l11
          have k12 := (hB2.cell (cell_lt l12)).trans l12
          have k13 := (hB2.cell (cell_lt l13)).trans l13
          have k14 := (hB2.cell (cell_lt l14)).trans l14
          clear hB2 l0 l1 l2 l3 l4 l5 l6 l7 l8 l9 l10 l11 l12 l13 l14
          have NR := HNR.out X2
          unfold kv kcs at NR
          rw [show c.kd = 16 from HKD.out.trans KDE.out] at NR
          have NR := hidden NR
          go_wp2_with fail
          refine Calls.mono NR.out ?_
          rintro e X3 ⟨rfl, hB3⟩
          have HBX3 := hidden (HBX.out.trans (hB3.mono HBX.out.size))
          have OF := hidden (HOF.out X3 HBX3.out)
          clear hB3
          go_wp2_with fail
          refine Calls.mono OF.out ?_
          rintro e X4 ⟨rfl, hB4⟩
          have HBX4 := hidden (HBX3.out.trans (hB4.mono HBX3.out.size))
          clear hB4
          cases hof : ord q.ns with
          | false =>
            have HF := hidden hof
            clear hof
            go_wp2_with fail
            go_meet
            case rel => exact ⟨by rw [HB1.out, HD.out, HG.out, HF.out]; rfl, HBX4.out⟩
          | true =>
            have HF := hidden hof
            clear hof
            go_wp2_with fail
            go_meet
            case rel => exact ⟨by rw [HB1.out, HD.out, HG.out, HF.out]; rfl, HBX4.out⟩
      · rw [hkd] at l0
        have e3 : (q.kd == 3) = false := by simp [h3]
        have e16 : (q.kd == 16) = false := by simp [h16]
        have HD : Hid (decide (q.kd = 3 ∨ q.kd = 16) = false) := decide_eq_false (fun h => h.elim h3 h16)
        clear hkd l1 l2 l3 l4 l5 l6 l7 l8 l9 l10 l11 l12 l13 l14
        go_wp2_with fail
        go_meet
        case rel => exact ⟨by rw [HB1.out, HD.out]; rfl, Below.refl _ _⟩
  case rest =>
    obtain ⟨rfl, HB2⟩ := hcut
    rename_i X2
    have HO2 := hidden (HO1.out.later HB2.out)
    have HN2 := hidden (HN1.out.later HB2.out)
    have HR2 := hidden (HR1.out.later HB2.out)
    have TI := hidden (r_time now wc)
    cases b1 with
    | true =>
      have HE : Hid (repE S q now = 172) := by
        show _ = _
        unfold repE
        rw [if_pos]
        by_cases hk : q.kd = 3 ∨ q.kd = 16
        · refine .inr ?_
          rw [decide_eq_true hk] at hb1
          simpa using hb1
        · exact .inl hk
      clear hb1 HN1 HR1 HO1 HN2 HR2 TI
      have HOE := hidden (HO2.out)
      obtain ⟨z0, z1, z2⟩ : _ ∧ _ ∧ _ := ⟨HOE.out.cell (List.mem_cons_self ..) 0 rfl, HOE.out.cell (List.mem_cons_self ..) 1 rfl, HOE.out.cell (List.mem_cons_self ..) 2 rfl⟩
      have zf := HOE.out.frozen (b := w.heap.size + 1) (List.mem_cons_self ..)
      go_wp2
      obtain ⟨y1, y2⟩ := set3 (v0 := .slice none 0 0) (v1 := .int .i64 0) (v2 := .int .i64 0) (HOE.out.has (List.mem_cons_self ..))
      refine bodyPost_ret (res_ct rfl rfl y1) rfl (.inl ⟨by rw [HE.out]; decide, by rw [HE.out]; rfl, HOE.out.below.trans (y2.below HOE.out.below.size (fun k hk => by omega))⟩)
    | false =>
      have HK : Hid ((q.kd = 3 ∨ q.kd = 16) ∧ ord (q.gs ++ q.ns) = true) := by
        have h := hb1.symm
        rw [Bool.not_eq_false'] at h
        rw [Bool.and_eq_true, decide_eq_true_eq] at h
        exact h
      clear hb1 HN1 HR1 HO1
      go_wp2_with fail
      refine Calls.mono TI.out ?_
      rintro e w' ⟨rfl, rfl⟩
      by_cases hnow : 0 ≤ now ∧ now ≤ 1099511627776
      case neg =>
        rw [decide_eq_false hnow]
        have HE : Hid (repE S q now = 1) := by
          show _ = _
          unfold repE
          rw [if_neg (fun h => h.elim (fun h => h HK.out.1) (fun h => by rw [HK.out.2] at h; cases h)), if_pos (by omega)]
        clear HN2 HR2 TI hnow
        have HOE := hidden (HO2.out)
        obtain ⟨z0, z1, z2⟩ : _ ∧ _ ∧ _ := ⟨HOE.out.cell (List.mem_cons_self ..) 0 rfl, HOE.out.cell (List.mem_cons_self ..) 1 rfl, HOE.out.cell (List.mem_cons_self ..) 2 rfl⟩
        have zf := HOE.out.frozen (b := w.heap.size + 1) (List.mem_cons_self ..)
        go_wp2
        obtain ⟨y1, y2⟩ := set3 (v0 := .slice none 0 0) (v1 := .int .i64 0) (v2 := .int .i64 0) (HOE.out.has (List.mem_cons_self ..))
        refine bodyPost_ret (res_ct rfl rfl y1) rfl (.inl ⟨by rw [HE.out]; decide, by rw [HE.out]; rfl, HOE.out.below.trans (y2.below HOE.out.below.size (fun k hk => by omega))⟩)
      case pos =>
        rw [decide_eq_true hnow]
        have HNOW := hidden hnow
        have HE0 : Hid (repE S q now = if 2147483648 < (q.tsn - S.c) % 4294967296 then 170 else if (S.L.length : Int) < (q.tsn - S.c) % 4294967296 + far (q.gs ++ q.ns) then 171 else 0) := by
          show _ = _
          unfold repE
          rw [if_neg (fun h => h.elim (fun h => h HK.out.1) (fun h => by rw [HK.out.2] at h; cases h)), if_neg (by omega)]
        clear hnow TI
        have HC2 : Hid (∀ w', Below wc.heap.size wc w' → (Instr.loadAt 22 (.pointer (some ⟨w.heap.size, 2, none⟩))).run Try.prog w' = .ok (.int .u32 q.tsn) w') := fun w' hB => by
          have := (HO2.out.later hB).cell (b := w.heap.size) (List.mem_cons_of_mem _ (List.mem_cons_self ..)) 2 (v := .int .u32 c.tsn) rfl
          rw [HTS.out] at this
          simp [go_sem, this]
        have HRC : Hid (∀ w', Below wc.heap.size wc w' → (Instr.loadAt 22 (.pointer (some ⟨r, 1, none⟩))).run Try.prog w' = .ok (.int .u32 S.c) w') := fun w' hB => by
          have := (HN2.out.later hB).q.cell 1 rfl
          simp [go_sem, this]
        have HLS : Hid (∀ w', Below wc.heap.size wc w' → Calls Try.prog 67 #[.int .u32 q.tsn, .int .u32 S.c] w' fun e w2 => e = .returned (.bool (decide (0 < Ser.dist 4294967296 q.tsn S.c))) ∧ w' = w2) := fun w' _ => Ser.rless _ _ HQT.out ⟨HGG.out.c0, HGG.out.c1⟩ w'
        have ESL : Hid (∀ (args : Array Value) (w : World), (callFunc 67 args).run Try.prog w = .ok (.enter 67 args) w) := enters_of Try.func67 (by kernel_rfl) rfl
        by_cases hless : 2147483648 < (q.tsn - S.c) % 4294967296
        case pos =>
          rw [decide_eq_true ((less_up ⟨HGG.out.c0, HGG.out.c1⟩ HQT.out).2 hless)] at HLS
          have HE : Hid (repE S q now = 170) := by
            show _ = _
            rw [HE0.out, if_pos hless]
          clear hless
          go_upto_region 5 with fail
          refine Ord.wp_region_ex0 (X := Unit) (by kernel_rfl) 280 (fun xq => [(some 43, .pointer (some ⟨w.heap.size, 2, none⟩)), (some 44, .int .u32 q.tsn), (some 45, .pointer (some ⟨r, 0, none⟩)), (some 46, .pointer (some ⟨r, 0, none⟩)), (some 47, .pointer (some ⟨r, 1, none⟩)), (some 48, .int .u32 S.c), (some 49, .bool true)]) [some 43, some 44, some 45, some 46, some 47, some 48, some 49] rfl (fun listed hsz hr => Ord.all_listedC (rank := [0, 1, 2, 3, 4, 5, 6]) (by kernel_rfl) hsz hr) (by rfl) (fun _ => rfl) (by kernel_rfl) (Rg.StM [] (fun sk sx w' => Below wc.heap.size wc w')) (fun _ _ _ _ hL h => h.ext (n := 7) (by decide) hL) ?_ ?_ () ?_
          case refine_1 =>
            intro xq Lq iq oq ac w' ho hi hcl hdep hF hW
            have f1 : ac.tmps.size = 280 := hF.1
            match iq, ho, hi, hdep with
            | 0, ho, hi, hdep =>
              cases ho
              have da0 : ac.eval (.tmp 4) = .pointer (some ⟨w.heap.size, 0, none⟩) := hF.old 4 rfl
              exact Ord.ex_value xq rfl rfl (Rg.fa da0 rfl (by simp [go_sem])) rfl (hW.keep (by decide))
            | 1, ho, hi, hdep =>
              cases ho
              have da0 : ac.eval (.tmp 43) = .pointer (some ⟨w.heap.size, 2, none⟩) := hF.2.2.2 0 43 _ rfl (hdep ⟨0, .data⟩ (by simp) rfl)
              exact Ord.ex_value xq rfl rfl (Rg.load da0 rfl (HC2.out _ hW.only)) rfl (hW.keep (by decide))
            | 2, ho, hi, hdep =>
              cases ho
              have da0 : ac.eval (.tmp 0) = .pointer (some ⟨r, 0, none⟩) := hF.old 0 rfl
              exact Ord.ex_value xq rfl rfl (Rg.mv da0 rfl) rfl (hW.keep (by decide))
            | 3, ho, hi, hdep =>
              cases ho
              have da0 : ac.eval (.tmp 45) = .pointer (some ⟨r, 0, none⟩) := hF.2.2.2 2 45 _ rfl (hdep ⟨2, .data⟩ (by simp) rfl)
              exact Ord.ex_value xq rfl rfl (Rg.nilc da0 rfl) rfl (hW.keep (by decide))
            | 4, ho, hi, hdep =>
              cases ho
              have da0 : ac.eval (.tmp 46) = .pointer (some ⟨r, 0, none⟩) := hF.2.2.2 3 46 _ rfl (hdep ⟨3, .data⟩ (by simp) rfl)
              exact Ord.ex_value xq rfl rfl (Rg.fa da0 rfl (by simp [go_sem])) rfl (hW.keep (by decide))
            | 5, ho, hi, hdep =>
              cases ho
              have da0 : ac.eval (.tmp 47) = .pointer (some ⟨r, 1, none⟩) := hF.2.2.2 4 47 _ rfl (hdep ⟨4, .data⟩ (by simp) rfl)
              exact Ord.ex_value xq rfl rfl (Rg.load da0 rfl (HRC.out _ hW.only)) rfl (hW.keep (by decide))
            | 6, ho, hi, hdep =>
              cases ho
              have da0 : ac.eval (.tmp 44) = .int .u32 q.tsn := hF.2.2.2 1 44 _ rfl (hdep ⟨1, .data⟩ (by simp) rfl)
              have da1 : ac.eval (.tmp 48) = .int .u32 S.c := hF.2.2.2 5 48 _ rfl (hdep ⟨5, .data⟩ (by simp) rfl)
              obtain ⟨kq, hlo, hhi, hA⟩ := hW.range 0 0 (.inl rfl) (.inl rfl)
              have hA := hW.only
              exact Rg.ex_call xq rfl rfl (Rg.enter (args := #[.int .u32 q.tsn, .int .u32 S.c]) rfl rfl (by simp [da0, da1]) ESL.out) (Calls.mono (HLS.out _ hA) (by rintro e w2 ⟨rfl, rfl⟩; exact ⟨rfl, Rg.StM.nil (hA)⟩))
          case refine_3 => exact Rg.StM.first (Below.refl _ _).drew
          case refine_2 =>
            intro xu X5 hW
            have hA := hW.last
            clear hW
            simp only [Ord.puts, Ord.prs]
            go_simp
            have HO5 := hidden (HO2.out.later hA)
            clear HN2 HR2 HC2 HRC HLS ESL hA HO2
            have HOE := hidden (HO5.out)
            obtain ⟨z0, z1, z2⟩ : _ ∧ _ ∧ _ := ⟨HOE.out.cell (List.mem_cons_self ..) 0 rfl, HOE.out.cell (List.mem_cons_self ..) 1 rfl, HOE.out.cell (List.mem_cons_self ..) 2 rfl⟩
            have zf := HOE.out.frozen (b := w.heap.size + 1) (List.mem_cons_self ..)
            go_wp2
            obtain ⟨y1, y2⟩ := set3 (v0 := .slice none 0 0) (v1 := .int .i64 0) (v2 := .int .i64 0) (HOE.out.has (List.mem_cons_self ..))
            refine bodyPost_ret (res_ct rfl rfl y1) rfl (.inl ⟨by rw [HE.out]; decide, by rw [HE.out]; rfl, HOE.out.below.trans (y2.below HOE.out.below.size (fun k hk => by omega))⟩)
        case neg =>
          rw [decide_eq_false (fun h => hless ((less_up ⟨HGG.out.c0, HGG.out.c1⟩ HQT.out).1 h))] at HLS
          have HLE := hidden hless
          clear hless
          go_upto_region 5 with fail
          refine Ord.wp_region_ex0 (X := Unit) (by kernel_rfl) 280 (fun xq => [(some 43, .pointer (some ⟨w.heap.size, 2, none⟩)), (some 44, .int .u32 q.tsn), (some 45, .pointer (some ⟨r, 0, none⟩)), (some 46, .pointer (some ⟨r, 0, none⟩)), (some 47, .pointer (some ⟨r, 1, none⟩)), (some 48, .int .u32 S.c), (some 49, .bool false)]) [some 43, some 44, some 45, some 46, some 47, some 48, some 49] rfl (fun listed hsz hr => Ord.all_listedC (rank := [0, 1, 2, 3, 4, 5, 6]) (by kernel_rfl) hsz hr) (by rfl) (fun _ => rfl) (by kernel_rfl) (Rg.StM [] (fun sk sx w' => Below wc.heap.size wc w')) (fun _ _ _ _ hL h => h.ext (n := 7) (by decide) hL) ?_ ?_ () ?_
          case refine_1 =>
            intro xq Lq iq oq ac w' ho hi hcl hdep hF hW
            have f1 : ac.tmps.size = 280 := hF.1
            match iq, ho, hi, hdep with
            | 0, ho, hi, hdep =>
              cases ho
              have da0 : ac.eval (.tmp 4) = .pointer (some ⟨w.heap.size, 0, none⟩) := hF.old 4 rfl
              exact Ord.ex_value xq rfl rfl (Rg.fa da0 rfl (by simp [go_sem])) rfl (hW.keep (by decide))
            | 1, ho, hi, hdep =>
              cases ho
              have da0 : ac.eval (.tmp 43) = .pointer (some ⟨w.heap.size, 2, none⟩) := hF.2.2.2 0 43 _ rfl (hdep ⟨0, .data⟩ (by simp) rfl)
              exact Ord.ex_value xq rfl rfl (Rg.load da0 rfl (HC2.out _ hW.only)) rfl (hW.keep (by decide))
            | 2, ho, hi, hdep =>
              cases ho
              have da0 : ac.eval (.tmp 0) = .pointer (some ⟨r, 0, none⟩) := hF.old 0 rfl
              exact Ord.ex_value xq rfl rfl (Rg.mv da0 rfl) rfl (hW.keep (by decide))
            | 3, ho, hi, hdep =>
              cases ho
              have da0 : ac.eval (.tmp 45) = .pointer (some ⟨r, 0, none⟩) := hF.2.2.2 2 45 _ rfl (hdep ⟨2, .data⟩ (by simp) rfl)
              exact Ord.ex_value xq rfl rfl (Rg.nilc da0 rfl) rfl (hW.keep (by decide))
            | 4, ho, hi, hdep =>
              cases ho
              have da0 : ac.eval (.tmp 46) = .pointer (some ⟨r, 0, none⟩) := hF.2.2.2 3 46 _ rfl (hdep ⟨3, .data⟩ (by simp) rfl)
              exact Ord.ex_value xq rfl rfl (Rg.fa da0 rfl (by simp [go_sem])) rfl (hW.keep (by decide))
            | 5, ho, hi, hdep =>
              cases ho
              have da0 : ac.eval (.tmp 47) = .pointer (some ⟨r, 1, none⟩) := hF.2.2.2 4 47 _ rfl (hdep ⟨4, .data⟩ (by simp) rfl)
              exact Ord.ex_value xq rfl rfl (Rg.load da0 rfl (HRC.out _ hW.only)) rfl (hW.keep (by decide))
            | 6, ho, hi, hdep =>
              cases ho
              have da0 : ac.eval (.tmp 44) = .int .u32 q.tsn := hF.2.2.2 1 44 _ rfl (hdep ⟨1, .data⟩ (by simp) rfl)
              have da1 : ac.eval (.tmp 48) = .int .u32 S.c := hF.2.2.2 5 48 _ rfl (hdep ⟨5, .data⟩ (by simp) rfl)
              obtain ⟨kq, hlo, hhi, hA⟩ := hW.range 0 0 (.inl rfl) (.inl rfl)
              have hA := hW.only
              exact Rg.ex_call xq rfl rfl (Rg.enter (args := #[.int .u32 q.tsn, .int .u32 S.c]) rfl rfl (by simp [da0, da1]) ESL.out) (Calls.mono (HLS.out _ hA) (by rintro e w2 ⟨rfl, rfl⟩; exact ⟨rfl, Rg.StM.nil (hA)⟩))
          case refine_3 => exact Rg.StM.first (Below.refl _ _).drew
          case refine_2 =>
            intro xu X5 hW
            have hA := hW.last
            clear hW
            simp only [Ord.puts, Ord.prs]
            go_simp
            have HO5 := hidden (HO2.out.later hA)
            have HN5 := hidden (HN2.out.later hA)
            have HR5 := hidden (HR2.out.later hA)
            clear HN2 HR2 HC2 HRC HLS ESL hA HO2
            obtain ⟨pg, hpg⟩ : ∃ b, b = pastV (nextS S) q.tsn q.gs := ⟨_, rfl⟩
            obtain ⟨pn, hpn⟩ : ∃ b, b = pastV (nextS S) q.tsn q.ns := ⟨_, rfl⟩
            have HLD : Hid (∀ w', Below X5.heap.size X5 w' → (Instr.loadAt 48 (.pointer (some ⟨w.heap.size, 0, none⟩))).run Try.prog w' = .ok (kv c) w') := fun w' hB => load15 ((HO5.out.later hB).has (List.mem_cons_of_mem _ (List.mem_cons_self ..)))
            have HC10 : Hid (∀ w', Below X5.heap.size X5 w' → (Instr.loadAt 44 (.pointer (some ⟨w.heap.size, 10, none⟩))).run Try.prog w' = .ok c.gv w') := fun w' hB => by
              have := (HO5.out.later hB).cell (b := w.heap.size) (List.mem_cons_of_mem _ (List.mem_cons_self ..)) 10 (v := c.gv) rfl
              simp [go_sem, this]
            have HPG : Hid (∀ w', Below X5.heap.size X5 w' → Calls Try.prog 68 #[.pointer (some ⟨r, 0, none⟩), kv c, c.gv] w' fun e w2 => e = .returned (.bool pg) ∧ Below w'.heap.size w' w2) := fun w' hB => by
              have := r_past (HN5.out.later hB) ⟨HGG.out.c0, HGG.out.c1⟩ HLEN.out (c := c) (by rw [HTS.out]; exact HQT.out) ((HR5.out.later hB).g) HGL.out.2.2.1
              rw [HTS.out, ← show nextS S = (S.c + (S.L.length : Int) + 1) % 4294967296 from rfl, ← hpg] at this
              exact this
            have HPN : Hid (∀ w', Below X5.heap.size X5 w' → Calls Try.prog 68 #[.pointer (some ⟨r, 0, none⟩), kv c, c.fv] w' fun e w2 => e = .returned (.bool pn) ∧ Below w'.heap.size w' w2) := fun w' hB => by
              have := r_past (HN5.out.later hB) ⟨HGG.out.c0, HGG.out.c1⟩ HLEN.out (c := c) (by rw [HTS.out]; exact HQT.out) ((HR5.out.later hB).f) HGL.out.2.2.2
              rw [HTS.out, ← show nextS S = (S.c + (S.L.length : Int) + 1) % 4294967296 from rfl, ← hpn] at this
              exact this
            have HNRV : Hid (∀ w', Below X5.heap.size X5 w' → Calls Try.prog 66 #[kv c] w' fun e w2 => e = .returned c.fv ∧ Below w'.heap.size w' w2) := fun w' hB => r_nr c w'
            have EPA : Hid (∀ (args : Array Value) (w : World), (callFunc 68 args).run Try.prog w = .ok (.enter 68 args) w) := enters_of Try.func68 (by kernel_rfl) rfl
            have ENR : Hid (∀ (args : Array Value) (w : World), (callFunc 66 args).run Try.prog w = .ok (.enter 66 args) w) := enters_of Try.func66 (by kernel_rfl) rfl
            have HPB : Hid ((pg || pn) = true ↔ (S.L.length : Int) < (q.tsn - S.c) % 4294967296 + far (q.gs ++ q.ns)) := by
              have := past_both HGG.out HQT.out (by have := HLE.out; omega) HGL.out.1 HGL.out.2.1
              rw [← hpg, ← hpn] at this
              rw [Bool.or_eq_true]
              exact this
            clear hpg hpn
            go_upto_region 7 with fail
            go_cut [62] from 300 (fun s wx => s = .bool (pg || pn) ∧ Hid (Below X5.heap.size X5 wx))
            case first =>
              cases pg with
              | true =>
                refine Ord.wp_region_ex0 (X := Unit) (by kernel_rfl) 280 (fun xq => [(some 51, .pointer (some ⟨r, 0, none⟩)), (some 52, kv c), (some 53, .pointer (some ⟨w.heap.size, 10, none⟩)), (some 54, c.gv), (some 55, .bool true), (some 56, .bool true), (some 57, undef), (some 58, undef), (some 59, undef), (some 60, undef), (some 61, undef), (some 62, .bool true)]) [some 51, some 52, some 53, some 54, some 55, some 56, some 57, some 58, some 59, some 60, some 61, some 62] rfl (fun listed hsz hr => Ord.all_listedC (rank := [0, 1, 2, 3, 4, 5, 6, 7, 8, 9, 10, 11]) (by kernel_rfl) hsz hr) (by rfl) (fun _ => rfl) (by kernel_rfl) (Rg.StM [] (fun sk sx w' => Below X5.heap.size X5 w')) (fun _ _ _ _ hL h => h.ext (n := 12) (by decide) hL) ?_ ?_ () ?_
                case refine_1 =>
                  intro xq Lq iq oq ac w' ho hi hcl hdep hF hW
                  have f1 : ac.tmps.size = 280 := hF.1
                  match iq, ho, hi, hdep with
                  | 0, ho, hi, hdep =>
                    cases ho
                    have da0 : ac.eval (.tmp 0) = .pointer (some ⟨r, 0, none⟩) := hF.old 0 rfl
                    exact Ord.ex_value xq rfl rfl (Rg.mv da0 rfl) rfl (hW.keep (by decide))
                  | 1, ho, hi, hdep =>
                    cases ho
                    have da0 : ac.eval (.tmp 4) = .pointer (some ⟨w.heap.size, 0, none⟩) := hF.old 4 rfl
                    exact Ord.ex_value xq rfl rfl (Rg.load da0 rfl (HLD.out _ hW.only)) rfl (hW.keep (by decide))
                  | 2, ho, hi, hdep =>
                    cases ho
                    have da0 : ac.eval (.tmp 4) = .pointer (some ⟨w.heap.size, 0, none⟩) := hF.old 4 rfl
                    exact Ord.ex_value xq rfl rfl (Rg.fa da0 rfl (by simp [go_sem])) rfl (hW.keep (by decide))
                  | 3, ho, hi, hdep =>
                    cases ho
                    have da0 : ac.eval (.tmp 53) = .pointer (some ⟨w.heap.size, 10, none⟩) := hF.2.2.2 2 53 _ rfl (hdep ⟨2, .data⟩ (by simp) rfl)
                    exact Ord.ex_value xq rfl rfl (Rg.load da0 rfl (HC10.out _ hW.only)) rfl (hW.keep (by decide))
                  | 4, ho, hi, hdep =>
                    cases ho
                    have da0 : ac.eval (.tmp 51) = .pointer (some ⟨r, 0, none⟩) := hF.2.2.2 0 51 _ rfl (hdep ⟨0, .data⟩ (by simp) rfl)
                    have da1 : ac.eval (.tmp 52) = kv c := hF.2.2.2 1 52 _ rfl (hdep ⟨1, .data⟩ (by simp) rfl)
                    have da2 : ac.eval (.tmp 54) = c.gv := hF.2.2.2 3 54 _ rfl (hdep ⟨3, .data⟩ (by simp) rfl)
                    obtain ⟨kq, hlo, hhi, hA⟩ := hW.range 0 0 (.inl rfl) (.inl rfl)
                    have hA := hW.only
                    exact Rg.ex_call xq rfl rfl (Rg.enter (args := #[.pointer (some ⟨r, 0, none⟩), kv c, c.gv]) rfl rfl (by simp [da0, da1, da2]) EPA.out) (Calls.mono (HPG.out _ hA) (by rintro e w2 ⟨rfl, hB⟩; exact ⟨rfl, Rg.StM.nil (hA.trans (hB.mono hA.size))⟩))
                  | 5, ho, hi, hdep =>
                    cases ho
                    have da0 : ac.eval (.tmp 55) = .bool true := hF.2.2.2 4 55 _ rfl (hdep ⟨4, .data⟩ (by simp) rfl)
                    exact Ord.ex_value xq rfl rfl (Rg.mv da0 rfl) rfl (hW.keep (by decide))
                  | 6, ho, hi, hdep =>
                    cases ho
                    have dg : ac.eval (.tmp 56) = .bool true := hF.2.2.2 5 56 _ rfl (hdep ⟨5, .guard⟩ (by simp) rfl)
                    exact Cw.ex_not xq rfl (Ord.wanted_no (bv := false) dg (by rw [f1]; decide) rfl rfl) rfl (hW.keep (by decide))
                  | 7, ho, hi, hdep =>
                    cases ho
                    have dg : ac.eval (.tmp 56) = .bool true := hF.2.2.2 5 56 _ rfl (hdep ⟨5, .guard⟩ (by simp) rfl)
                    exact Cw.ex_not xq rfl (Ord.wanted_no (bv := false) dg (by rw [f1]; decide) rfl rfl) rfl (hW.keep (by decide))
                  | 8, ho, hi, hdep =>
                    cases ho
                    have dg : ac.eval (.tmp 56) = .bool true := hF.2.2.2 5 56 _ rfl (hdep ⟨5, .guard⟩ (by simp) rfl)
                    exact Cw.ex_not xq rfl (Ord.wanted_no (bv := false) dg (by rw [f1]; decide) rfl rfl) rfl (hW.keep (by decide))
                  | 9, ho, hi, hdep =>
                    cases ho
                    have dg : ac.eval (.tmp 56) = .bool true := hF.2.2.2 5 56 _ rfl (hdep ⟨5, .guard⟩ (by simp) rfl)
                    exact Cw.ex_not xq rfl (Ord.wanted_no (bv := false) dg (by rw [f1]; decide) rfl rfl) rfl (hW.keep (by decide))
                  | 10, ho, hi, hdep =>
                    cases ho
                    have dg : ac.eval (.tmp 56) = .bool true := hF.2.2.2 5 56 _ rfl (hdep ⟨5, .guard⟩ (by simp) rfl)
                    exact Cw.ex_not xq rfl (Ord.wanted_no (bv := false) dg (by rw [f1]; decide) rfl rfl) rfl (hW.keep (by decide))
                  | 11, ho, hi, hdep =>
                    cases ho
                    have da0 : ac.eval (.tmp 56) = .bool true := hF.2.2.2 5 56 _ rfl (hdep ⟨5, .data⟩ (by simp) rfl)
                    have da1 : ac.eval (.tmp 61) = undef := hF.2.2.2 10 61 _ rfl (hdep ⟨10, .data⟩ (by simp) rfl)
                    exact Ord.ex_value xq rfl rfl (Rg.pick_t da0 rfl rfl) rfl (hW.keep (by decide))
                case refine_3 => exact Rg.StM.first (Below.refl _ _).drew
                case refine_2 =>
                  intro xu X6 hW
                  have hA := hW.last
                  clear hW
                  simp only [Ord.puts, Ord.prs]
                  go_simp
                  go_wp2_with fail
                  go_meet
                  case rel => exact ⟨rfl, hA⟩
              | false =>
                cases pn with
                | true =>
                  refine Ord.wp_region_ex0 (X := Unit) (by kernel_rfl) 280 (fun xq => [(some 51, .pointer (some ⟨r, 0, none⟩)), (some 52, kv c), (some 53, .pointer (some ⟨w.heap.size, 10, none⟩)), (some 54, c.gv), (some 55, .bool false), (some 56, .bool false), (some 57, .pointer (some ⟨r, 0, none⟩)), (some 58, kv c), (some 59, kv c), (some 60, c.fv), (some 61, .bool true), (some 62, .bool true)]) [some 51, some 52, some 53, some 54, some 55, some 56, some 57, some 58, some 59, some 60, some 61, some 62] rfl (fun listed hsz hr => Ord.all_listedC (rank := [0, 1, 2, 3, 4, 5, 6, 7, 8, 9, 10, 11]) (by kernel_rfl) hsz hr) (by rfl) (fun _ => rfl) (by kernel_rfl) (Rg.StM [] (fun sk sx w' => Below X5.heap.size X5 w')) (fun _ _ _ _ hL h => h.ext (n := 12) (by decide) hL) ?_ ?_ () ?_
                  case refine_1 =>
                    intro xq Lq iq oq ac w' ho hi hcl hdep hF hW
                    have f1 : ac.tmps.size = 280 := hF.1
                    match iq, ho, hi, hdep with
                    | 0, ho, hi, hdep =>
                      cases ho
                      have da0 : ac.eval (.tmp 0) = .pointer (some ⟨r, 0, none⟩) := hF.old 0 rfl
                      exact Ord.ex_value xq rfl rfl (Rg.mv da0 rfl) rfl (hW.keep (by decide))
                    | 1, ho, hi, hdep =>
                      cases ho
                      have da0 : ac.eval (.tmp 4) = .pointer (some ⟨w.heap.size, 0, none⟩) := hF.old 4 rfl
                      exact Ord.ex_value xq rfl rfl (Rg.load da0 rfl (HLD.out _ hW.only)) rfl (hW.keep (by decide))
                    | 2, ho, hi, hdep =>
                      cases ho
                      have da0 : ac.eval (.tmp 4) = .pointer (some ⟨w.heap.size, 0, none⟩) := hF.old 4 rfl
                      exact Ord.ex_value xq rfl rfl (Rg.fa da0 rfl (by simp [go_sem])) rfl (hW.keep (by decide))
                    | 3, ho, hi, hdep =>
                      cases ho
                      have da0 : ac.eval (.tmp 53) = .pointer (some ⟨w.heap.size, 10, none⟩) := hF.2.2.2 2 53 _ rfl (hdep ⟨2, .data⟩ (by simp) rfl)
                      exact Ord.ex_value xq rfl rfl (Rg.load da0 rfl (HC10.out _ hW.only)) rfl (hW.keep (by decide))
                    | 4, ho, hi, hdep =>
                      cases ho
                      have da0 : ac.eval (.tmp 51) = .pointer (some ⟨r, 0, none⟩) := hF.2.2.2 0 51 _ rfl (hdep ⟨0, .data⟩ (by simp) rfl)
                      have da1 : ac.eval (.tmp 52) = kv c := hF.2.2.2 1 52 _ rfl (hdep ⟨1, .data⟩ (by simp) rfl)
                      have da2 : ac.eval (.tmp 54) = c.gv := hF.2.2.2 3 54 _ rfl (hdep ⟨3, .data⟩ (by simp) rfl)
                      obtain ⟨kq, hlo, hhi, hA⟩ := hW.range 0 0 (.inl rfl) (.inl rfl)
                      have hA := hW.only
                      exact Rg.ex_call xq rfl rfl (Rg.enter (args := #[.pointer (some ⟨r, 0, none⟩), kv c, c.gv]) rfl rfl (by simp [da0, da1, da2]) EPA.out) (Calls.mono (HPG.out _ hA) (by rintro e w2 ⟨rfl, hB⟩; exact ⟨rfl, Rg.StM.nil (hA.trans (hB.mono hA.size))⟩))
                    | 5, ho, hi, hdep =>
                      cases ho
                      have da0 : ac.eval (.tmp 55) = .bool false := hF.2.2.2 4 55 _ rfl (hdep ⟨4, .data⟩ (by simp) rfl)
                      exact Ord.ex_value xq rfl rfl (Rg.mv da0 rfl) rfl (hW.keep (by decide))
                    | 6, ho, hi, hdep =>
                      cases ho
                      have dg : ac.eval (.tmp 56) = .bool false := hF.2.2.2 5 56 _ rfl (hdep ⟨5, .guard⟩ (by simp) rfl)
                      have da0 : ac.eval (.tmp 0) = .pointer (some ⟨r, 0, none⟩) := hF.old 0 rfl
                      exact Ord.ex_value xq rfl (Ord.wanted_of dg (by rw [f1]; decide) rfl rfl) (Rg.mv da0 rfl) rfl (hW.keep (by decide))
                    | 7, ho, hi, hdep =>
                      cases ho
                      have dg : ac.eval (.tmp 56) = .bool false := hF.2.2.2 5 56 _ rfl (hdep ⟨5, .guard⟩ (by simp) rfl)
                      have da0 : ac.eval (.tmp 4) = .pointer (some ⟨w.heap.size, 0, none⟩) := hF.old 4 rfl
                      exact Ord.ex_value xq rfl (Ord.wanted_of dg (by rw [f1]; decide) rfl rfl) (Rg.load da0 rfl (HLD.out _ hW.only)) rfl (hW.keep (by decide))
                    | 8, ho, hi, hdep =>
                      cases ho
                      have dg : ac.eval (.tmp 56) = .bool false := hF.2.2.2 5 56 _ rfl (hdep ⟨5, .guard⟩ (by simp) rfl)
                      have da0 : ac.eval (.tmp 4) = .pointer (some ⟨w.heap.size, 0, none⟩) := hF.old 4 rfl
                      exact Ord.ex_value xq rfl (Ord.wanted_of dg (by rw [f1]; decide) rfl rfl) (Rg.load da0 rfl (HLD.out _ hW.only)) rfl (hW.keep (by decide))
                    | 9, ho, hi, hdep =>
                      cases ho
                      have dg : ac.eval (.tmp 56) = .bool false := hF.2.2.2 5 56 _ rfl (hdep ⟨5, .guard⟩ (by simp) rfl)
                      have da0 : ac.eval (.tmp 59) = kv c := hF.2.2.2 8 59 _ rfl (hdep ⟨8, .data⟩ (by simp) rfl)
                      obtain ⟨kq, hlo, hhi, hA⟩ := hW.range 0 0 (.inl rfl) (.inl rfl)
                      have hA := hW.only
                      exact Rg.ex_call xq rfl (Ord.wanted_of dg (by rw [f1]; decide) rfl rfl) (Rg.enter (args := #[kv c]) rfl rfl (by simp [da0]) ENR.out) (Calls.mono (HNRV.out _ hA) (by rintro e w2 ⟨rfl, hB⟩; exact ⟨rfl, Rg.StM.nil (hA.trans (hB.mono hA.size))⟩))
                    | 10, ho, hi, hdep =>
                      cases ho
                      have dg : ac.eval (.tmp 56) = .bool false := hF.2.2.2 5 56 _ rfl (hdep ⟨5, .guard⟩ (by simp) rfl)
                      have da0 : ac.eval (.tmp 57) = .pointer (some ⟨r, 0, none⟩) := hF.2.2.2 6 57 _ rfl (hdep ⟨6, .data⟩ (by simp) rfl)
                      have da1 : ac.eval (.tmp 58) = kv c := hF.2.2.2 7 58 _ rfl (hdep ⟨7, .data⟩ (by simp) rfl)
                      have da2 : ac.eval (.tmp 60) = c.fv := hF.2.2.2 9 60 _ rfl (hdep ⟨9, .data⟩ (by simp) rfl)
                      obtain ⟨kq, hlo, hhi, hA⟩ := hW.range 0 0 (.inl rfl) (.inl rfl)
                      have hA := hW.only
                      exact Rg.ex_call xq rfl (Ord.wanted_of dg (by rw [f1]; decide) rfl rfl) (Rg.enter (args := #[.pointer (some ⟨r, 0, none⟩), kv c, c.fv]) rfl rfl (by simp [da0, da1, da2]) EPA.out) (Calls.mono (HPN.out _ hA) (by rintro e w2 ⟨rfl, hB⟩; exact ⟨rfl, Rg.StM.nil (hA.trans (hB.mono hA.size))⟩))
                    | 11, ho, hi, hdep =>
                      cases ho
                      have da0 : ac.eval (.tmp 56) = .bool false := hF.2.2.2 5 56 _ rfl (hdep ⟨5, .data⟩ (by simp) rfl)
                      have da1 : ac.eval (.tmp 61) = .bool true := hF.2.2.2 10 61 _ rfl (hdep ⟨10, .data⟩ (by simp) rfl)
                      exact Ord.ex_value xq rfl rfl (Rg.pick_f da0 da1 rfl) rfl (hW.keep (by decide))
                  case refine_3 => exact Rg.StM.first (Below.refl _ _).drew
                  case refine_2 =>
                    intro xu X6 hW
                    have hA := hW.last
                    clear hW
                    simp only [Ord.puts, Ord.prs]
                    go_simp
                    go_wp2_with fail
                    go_meet
                    case rel => exact ⟨rfl, hA⟩
                | false =>
                  refine Ord.wp_region_ex0 (X := Unit) (by kernel_rfl) 280 (fun xq => [(some 51, .pointer (some ⟨r, 0, none⟩)), (some 52, kv c), (some 53, .pointer (some ⟨w.heap.size, 10, none⟩)), (some 54, c.gv), (some 55, .bool false), (some 56, .bool false), (some 57, .pointer (some ⟨r, 0, none⟩)), (some 58, kv c), (some 59, kv c), (some 60, c.fv), (some 61, .bool false), (some 62, .bool false)]) [some 51, some 52, some 53, some 54, some 55, some 56, some 57, some 58, some 59, some 60, some 61, some 62] rfl (fun listed hsz hr => Ord.all_listedC (rank := [0, 1, 2, 3, 4, 5, 6, 7, 8, 9, 10, 11]) (by kernel_rfl) hsz hr) (by rfl) (fun _ => rfl) (by kernel_rfl) (Rg.StM [] (fun sk sx w' => Below X5.heap.size X5 w')) (fun _ _ _ _ hL h => h.ext (n := 12) (by decide) hL) ?_ ?_ () ?_
                  case refine_1 =>
                    intro xq Lq iq oq ac w' ho hi hcl hdep hF hW
                    have f1 : ac.tmps.size = 280 := hF.1
                    match iq, ho, hi, hdep with
                    | 0, ho, hi, hdep =>
                      cases ho
                      have da0 : ac.eval (.tmp 0) = .pointer (some ⟨r, 0, none⟩) := hF.old 0 rfl
                      exact Ord.ex_value xq rfl rfl (Rg.mv da0 rfl) rfl (hW.keep (by decide))
                    | 1, ho, hi, hdep =>
                      cases ho
                      have da0 : ac.eval (.tmp 4) = .pointer (some ⟨w.heap.size, 0, none⟩) := hF.old 4 rfl
                      exact Ord.ex_value xq rfl rfl (Rg.load da0 rfl (HLD.out _ hW.only)) rfl (hW.keep (by decide))
                    | 2, ho, hi, hdep =>
                      cases ho
                      have da0 : ac.eval (.tmp 4) = .pointer (some ⟨w.heap.size, 0, none⟩) := hF.old 4 rfl
                      exact Ord.ex_value xq rfl rfl (Rg.fa da0 rfl (by simp [go_sem])) rfl (hW.keep (by decide))
                    | 3, ho, hi, hdep =>
                      cases ho
                      have da0 : ac.eval (.tmp 53) = .pointer (some ⟨w.heap.size, 10, none⟩) := hF.2.2.2 2 53 _ rfl (hdep ⟨2, .data⟩ (by simp) rfl)
                      exact Ord.ex_value xq rfl rfl (Rg.load da0 rfl (HC10.out _ hW.only)) rfl (hW.keep (by decide))
                    | 4, ho, hi, hdep =>
                      cases ho
                      have da0 : ac.eval (.tmp 51) = .pointer (some ⟨r, 0, none⟩) := hF.2.2.2 0 51 _ rfl (hdep ⟨0, .data⟩ (by simp) rfl)
                      have da1 : ac.eval (.tmp 52) = kv c := hF.2.2.2 1 52 _ rfl (hdep ⟨1, .data⟩ (by simp) rfl)
                      have da2 : ac.eval (.tmp 54) = c.gv := hF.2.2.2 3 54 _ rfl (hdep ⟨3, .data⟩ (by simp) rfl)
                      obtain ⟨kq, hlo, hhi, hA⟩ := hW.range 0 0 (.inl rfl) (.inl rfl)
                      have hA := hW.only
                      exact Rg.ex_call xq rfl rfl (Rg.enter (args := #[.pointer (some ⟨r, 0, none⟩), kv c, c.gv]) rfl rfl (by simp [da0, da1, da2]) EPA.out) (Calls.mono (HPG.out _ hA) (by rintro e w2 ⟨rfl, hB⟩; exact ⟨rfl, Rg.StM.nil (hA.trans (hB.mono hA.size))⟩))
                    | 5, ho, hi, hdep =>
                      cases ho
                      have da0 : ac.eval (.tmp 55) = .bool false := hF.2.2.2 4 55 _ rfl (hdep ⟨4, .data⟩ (by simp) rfl)
                      exact Ord.ex_value xq rfl rfl (Rg.mv da0 rfl) rfl (hW.keep (by decide))
                    | 6, ho, hi, hdep =>
                      cases ho
                      have dg : ac.eval (.tmp 56) = .bool false := hF.2.2.2 5 56 _ rfl (hdep ⟨5, .guard⟩ (by simp) rfl)
                      have da0 : ac.eval (.tmp 0) = .pointer (some ⟨r, 0, none⟩) := hF.old 0 rfl
                      exact Ord.ex_value xq rfl (Ord.wanted_of dg (by rw [f1]; decide) rfl rfl) (Rg.mv da0 rfl) rfl (hW.keep (by decide))
                    | 7, ho, hi, hdep =>
                      cases ho
                      have dg : ac.eval (.tmp 56) = .bool false := hF.2.2.2 5 56 _ rfl (hdep ⟨5, .guard⟩ (by simp) rfl)
                      have da0 : ac.eval (.tmp 4) = .pointer (some ⟨w.heap.size, 0, none⟩) := hF.old 4 rfl
                      exact Ord.ex_value xq rfl (Ord.wanted_of dg (by rw [f1]; decide) rfl rfl) (Rg.load da0 rfl (HLD.out _ hW.only)) rfl (hW.keep (by decide))
                    | 8, ho, hi, hdep =>
                      cases ho
                      have dg : ac.eval (.tmp 56) = .bool false := hF.2.2.2 5 56 _ rfl (hdep ⟨5, .guard⟩ (by simp) rfl)
                      have da0 : ac.eval (.tmp 4) = .pointer (some ⟨w.heap.size, 0, none⟩) := hF.old 4 rfl
                      exact Ord.ex_value xq rfl (Ord.wanted_of dg (by rw [f1]; decide) rfl rfl) (Rg.load da0 rfl (HLD.out _ hW.only)) rfl (hW.keep (by decide))
                    | 9, ho, hi, hdep =>
                      cases ho
                      have dg : ac.eval (.tmp 56) = .bool false := hF.2.2.2 5 56 _ rfl (hdep ⟨5, .guard⟩ (by simp) rfl)
                      have da0 : ac.eval (.tmp 59) = kv c := hF.2.2.2 8 59 _ rfl (hdep ⟨8, .data⟩ (by simp) rfl)
                      obtain ⟨kq, hlo, hhi, hA⟩ := hW.range 0 0 (.inl rfl) (.inl rfl)
                      have hA := hW.only
                      exact Rg.ex_call xq rfl (Ord.wanted_of dg (by rw [f1]; decide) rfl rfl) (Rg.enter (args := #[kv c]) rfl rfl (by simp [da0]) ENR.out) (Calls.mono (HNRV.out _ hA) (by rintro e w2 ⟨rfl, hB⟩; exact ⟨rfl, Rg.StM.nil (hA.trans (hB.mono hA.size))⟩))
                    | 10, ho, hi, hdep =>
                      cases ho
                      have dg : ac.eval (.tmp 56) = .bool false := hF.2.2.2 5 56 _ rfl (hdep ⟨5, .guard⟩ (by simp) rfl)
                      have da0 : ac.eval (.tmp 57) = .pointer (some ⟨r, 0, none⟩) := hF.2.2.2 6 57 _ rfl (hdep ⟨6, .data⟩ (by simp) rfl)
                      have da1 : ac.eval (.tmp 58) = kv c := hF.2.2.2 7 58 _ rfl (hdep ⟨7, .data⟩ (by simp) rfl)
                      have da2 : ac.eval (.tmp 60) = c.fv := hF.2.2.2 9 60 _ rfl (hdep ⟨9, .data⟩ (by simp) rfl)
                      obtain ⟨kq, hlo, hhi, hA⟩ := hW.range 0 0 (.inl rfl) (.inl rfl)
                      have hA := hW.only
                      exact Rg.ex_call xq rfl (Ord.wanted_of dg (by rw [f1]; decide) rfl rfl) (Rg.enter (args := #[.pointer (some ⟨r, 0, none⟩), kv c, c.fv]) rfl rfl (by simp [da0, da1, da2]) EPA.out) (Calls.mono (HPN.out _ hA) (by rintro e w2 ⟨rfl, hB⟩; exact ⟨rfl, Rg.StM.nil (hA.trans (hB.mono hA.size))⟩))
                    | 11, ho, hi, hdep =>
                      cases ho
                      have da0 : ac.eval (.tmp 56) = .bool false := hF.2.2.2 5 56 _ rfl (hdep ⟨5, .data⟩ (by simp) rfl)
                      have da1 : ac.eval (.tmp 61) = .bool false := hF.2.2.2 10 61 _ rfl (hdep ⟨10, .data⟩ (by simp) rfl)
                      exact Ord.ex_value xq rfl rfl (Rg.pick_f da0 da1 rfl) rfl (hW.keep (by decide))
                  case refine_3 => exact Rg.StM.first (Below.refl _ _).drew
                  case refine_2 =>
                    intro xu X6 hW
                    have hA := hW.last
                    clear hW
                    simp only [Ord.puts, Ord.prs]
                    go_simp
                    go_wp2_with fail
                    go_meet
                    case rel => exact ⟨rfl, hA⟩
            case rest =>
              obtain ⟨rfl, HB7⟩ := hcut
              rename_i X7
              have HO7 := hidden (HO5.out.later HB7.out)
              have HN7 := hidden (HN5.out.later HB7.out)
              have HR7 := hidden (HR5.out.later HB7.out)
              clear HO5 HN5 HR5 HLD HC10 HPG HPN HNRV EPA ENR
              cases hbp : (pg || pn) with
              | true =>
                rw [hbp] at HPB
                have HE : Hid (repE S q now = 171) := by
                  show _ = _
                  rw [HE0.out, if_neg (by have := HLE.out; omega), if_pos (HPB.out.1 rfl)]
                clear hbp HPB HN7 HR7
                have HOE := hidden (HO7.out)
                obtain ⟨z0, z1, z2⟩ : _ ∧ _ ∧ _ := ⟨HOE.out.cell (List.mem_cons_self ..) 0 rfl, HOE.out.cell (List.mem_cons_self ..) 1 rfl, HOE.out.cell (List.mem_cons_self ..) 2 rfl⟩
                have zf := HOE.out.frozen (b := w.heap.size + 1) (List.mem_cons_self ..)
                go_wp2
                obtain ⟨y1, y2⟩ := set3 (v0 := .slice none 0 0) (v1 := .int .i64 0) (v2 := .int .i64 0) (HOE.out.has (List.mem_cons_self ..))
                refine bodyPost_ret (res_ct rfl rfl y1) rfl (.inl ⟨by rw [HE.out]; decide, by rw [HE.out]; rfl, HOE.out.below.trans (y2.below HOE.out.below.size (fun k hk => by omega))⟩)
              | false =>
                rw [hbp] at HPB
                have HE : Hid (repE S q now = 0) := by
                  show _ = _
                  rw [HE0.out, if_neg (by have := HLE.out; omega), if_neg (fun h => by have := HPB.out.2 h; cases this)]
                clear hbp HPB
                obtain ⟨b8, hb8⟩ : ∃ b8, b8 = wc.heap.size := ⟨_, rfl⟩
                go_upto_region 10 with fail
                obtain ⟨W9, hW9⟩ : ∃ W9, W9 = wc.alloc (.cells #[.slice none 0 0, .int .i64 0, .int .i64 0] 34) := ⟨_, rfl⟩
                have hB9 : Below wc.heap.size wc W9 := by rw [hW9]; exact (Below.refl _ _).alloc (Nat.le_refl _) _
                have hN8 : Has W9 b8 #[.slice none 0 0, .int .i64 0, .int .i64 0] 34 := by rw [hW9, hb8]; exact Has.new _ _ _
                have HI9 : Hid (Below w.heap.size w W9 ∧ Has W9 w.heap.size (kcs c) 48 ∧ Has W9 (w.heap.size + 1) #[.slice none 0 0, .int .i64 0, .int .i64 0] 34 ∧ w.heap.size + 1 < b8 ∧ Ro D W9 r v P S.n S.c S.L ∧ Rp Q W9 c q) :=
                  ⟨HO7.out.below.trans (hB9.mono HO7.out.below.size), (HO7.out.later hB9).has (List.mem_cons_of_mem _ (List.mem_cons_self ..)), (HO7.out.later hB9).has (List.mem_cons_self ..), by rw [hb8]; exact HO7.out.lt (b := w.heap.size + 1) (List.mem_cons_self ..), HN7.out.later hB9, HR7.out.later hB9⟩
                rw [← hW9, ← hb8]
                have HN8 := hidden hN8
                clear hB9 hN8 hW9 hb8 HO7 HN7 HR7
                obtain ⟨n, hn⟩ : ∃ n, n = S.n := ⟨_, rfl⟩
                obtain ⟨c0, hc0⟩ : ∃ c0, c0 = S.c := ⟨_, rfl⟩
                obtain ⟨L, hL⟩ : ∃ L, L = S.L := ⟨_, rfl⟩
                obtain ⟨tl, htl⟩ : ∃ tl, tl = tlS S q := ⟨_, rfl⟩
                obtain ⟨gd, hgd⟩ : ∃ gd, gd = gdS S q := ⟨_, rfl⟩
                obtain ⟨nl, hnl⟩ : ∃ nl, nl = nwl tl L := ⟨_, rfl⟩
                obtain ⟨u, hu⟩ : ∃ u, u = upS S q := ⟨_, rfl⟩
                obtain ⟨ak0, hak0⟩ : ∃ ak0 : Nat → Ak, ak0 = fun p => ⟨sI (byF nl p) L L.length, mvA nl p L L.length, trA nl now p L L.length, 0⟩ := ⟨_, rfl⟩
                have HEQ := hidden (And.intro hn (And.intro hc0 (And.intro hL (And.intro htl (And.intro hgd (And.intro hnl (And.intro hu hak0)))))))
                rw [← hn, ← hc0, ← hL] at HI9
                have HLK : Hid (Lk n L) := by rw [hn, hL]; exact HGG.out.lk
                have HGC : Hid (∀ x ∈ L, Gc K n x) := by rw [hn, hL]; exact HGG.out.ch
                have HN18 : Hid (1 ≤ n ∧ n ≤ 8) := by rw [hn]; exact ⟨HGG.out.n1, HGG.out.n8⟩
                have HTL : Hid (∀ (i : Nat) (x : Ch), L[i]? = some x → tlD q (Ser.dist 4294967296 q.tsn x.ts) = tl i ∧ gdD q (Ser.dist 4294967296 q.tsn x.ts) = gd i) := fun i x hx => by rw [htl, hgd]; rw [hL] at hx; exact tl_at HGG.out HQT.out HE.out hx
                have HTSL : Hid (∀ x ∈ L, 0 ≤ x.ts ∧ x.ts < 4294967296) := fun x hx => by
                  obtain ⟨i, hi⟩ := List.mem_iff_getElem?.1 hx
                  rw [hL] at hi
                  have := HGG.out.ts i x hi
                  omega
                have HUP : Hid (u ≤ L.length) := by rw [hu, hL]; exact (repE_up HE.out).1
                have HDF : Hid (Ser.dist 4294967296 c0 q.tsn = (u : Int)) := by show _ = _; rw [hu, hc0]; exact diff_up ⟨HGG.out.c0, HGG.out.c1⟩ HQT.out HE.out HLEN.out
                have HC0 : Hid (0 ≤ c0 ∧ c0 < 4294967296) := by rw [hc0]; exact ⟨HGG.out.c0, HGG.out.c1⟩
                have HCQ : Hid (Below wc.heap.size wc wc) := Below.refl _ _
                clear hn hc0 hL htl hgd hnl hu hak0
                go_wp2_with fail
                go_loopw [9] (fun d X => ∃ (k : Nat) (pv : Value), d = .int .i64 (k : Int) ∧ k ≤ n ∧ Hid (Below w.heap.size w X ∧ Has X w.heap.size (kcs c) 48 ∧ Has X (w.heap.size + 1) #[.slice none 0 0, .int .i64 0, .int .i64 0] 34 ∧ Ro D X r v P n c0 L ∧ Rp Q X c q ∧ Has X b8 #[pv, .int .i64 0, .int .i64 0] 34 ∧ X.ownsRow w.heap.size 69 4 pv k (akc ak0 k))) (fun d X => n - (intOf d).toNat)
                case atStart => exact ⟨0, .slice none 0 0, rfl, Nat.zero_le _, HI9.out.1, HI9.out.2.1, HI9.out.2.2.1, HI9.out.2.2.2.2.1, HI9.out.2.2.2.2.2, HN8.out, rfl, .inl ⟨rfl, rfl⟩⟩
                case round =>
                  obtain ⟨k, pv, rfl, hkn, HP⟩ := hrel
                  have hwk : IntKind.i64.wrap ((k : Int) + 1) = (k : Int) + 1 := by have := HN18.out; rw [IntKind.wrap_i64]; omega
                  have c0_ := HP.out.2.2.2.1.q.cell 0 rfl
                  by_cases hlt : (k : Int) < (n : Int)
                  · skip
                    go_upto_region 13 with fail
                    clear c0_
                    obtain ⟨W, hW⟩ : ∃ W, W = wr := ⟨_, rfl⟩
                    rw [← hW] at HP ⊢
                    have HL8 : Hid (∀ X, Below W.heap.size W X → (Instr.loadAt 32 (.pointer (some ⟨b8, 0, none⟩))).run Try.prog X = .ok pv X) := fun X hX => by
                      have hh := (HP.out.2.2.2.2.2.1.later hX).cell 0 rfl
                      obtain ⟨a, cp, hv⟩ := Ba.own_len HP.out.2.2.2.2.2.2
                      rw [hv] at hh ⊢
                      simp [go_sem, hh]
                    have HLD : Hid (∀ X, Below W.heap.size W X → (Instr.loadAt 48 (.pointer (some ⟨w.heap.size, 0, none⟩))).run Try.prog X = .ok (kv c) X) := fun X hX => load15 (HP.out.2.1.later hX)
                    have HAC : Hid (∀ X, Below W.heap.size W X → Calls Try.prog 69 #[.pointer (some ⟨r, 0, none⟩), kv c, .int .i64 (k : Int), .int .i64 now] X fun e w' => e = .returned (.agg #[.int .i64 (ak0 k).by_, .bool (ak0 k).mv, .int .i64 (ak0 k).tr, .int .i64 (ak0 k).lo]) ∧ Below X.heap.size X w') := fun X hX => by
                      have := r_acked (tl := tl) (HP.out.2.2.2.1.later hX) HLK.out (HP.out.2.2.2.2.1.later hX) HTSL.out (fun x hx => ⟨(HGC.out x hx).se0, (HGC.out x hx).se1⟩) (fun i x hx => (HTL.out i x hx).1) (k : Int) now HNOW.out
                      rw [← HEQ.out.2.2.2.2.2.1] at this
                      rw [HEQ.out.2.2.2.2.2.2.2]
                      exact this
                    have EAC : Hid (∀ (args : Array Value) (w : World), (callFunc 69 args).run Try.prog w = .ok (.enter 69 args) w) := enters_of Try.func69 (by kernel_rfl) rfl
                    have hbase : w.heap.size ≤ W.heap.size := HP.out.1.size
                    have hpl : ∃ a l c, pv = .slice a l c := by obtain ⟨a, cp, hv⟩ := Ba.own_len HP.out.2.2.2.2.2.2; exact ⟨a, _, cp, hv⟩
                    have HPL := hidden hpl
                    have HK8 : Hid (k ≤ 8) := by have := HN18.out; show _ ≤ _; omega
                    have HBASE := hidden hbase
                    clear hW hbase hpl
                    refine Ord.wp_region_ex0 (X := Nat × Value) (by kernel_rfl) 280 (fun xq => [(some 73, .pointer (some ⟨b8, 0, none⟩)), (some 74, pv), (some 75, .pointer (some ⟨r, 0, none⟩)), (some 76, kv c), (some 77, .int .i64 (k : Int)), (some 78, .int .i64 now), (some 79, .agg #[.int .i64 (ak0 k).by_, .bool (ak0 k).mv, .int .i64 (ak0 k).tr, .int .i64 (ak0 k).lo]), (some 80, .slice (some ⟨xq.1, 0, none⟩) 1 1), (some 81, xq.2), (some 82, .pointer (some ⟨b8, 0, none⟩)), (none, undef)]) [some 73, some 74, some 75, some 76, some 77, some 78, some 79, some 80, some 81, some 82, none] rfl (fun listed hsz hr => Ord.all_listedC (rank := [0, 1, 2, 3, 4, 5, 6, 7, 8, 9, 10]) (by kernel_rfl) hsz hr) (by rfl) (fun _ => rfl) (by kernel_rfl) (Rg.StM [6, 7, 8, 10] (fun sk sx w' => PhA W b8 pv ak0 k w.heap.size sk sx w')) (fun _ _ _ _ hL h => h.ext (n := 11) (by decide) hL) ?_ ?_ (0, undef) ?_
                    case refine_1 =>
                      intro xq Lq iq oq ac w' ho hi hcl hdep hF hW
                      have f1 : ac.tmps.size = 280 := hF.1
                      match iq, ho, hi, hdep with
                      | 0, ho, hi, hdep =>
                        cases ho
                        have da0 : ac.eval (.tmp 8) = .pointer (some ⟨b8, 0, none⟩) := hF.old 8 rfl
                        exact Ord.ex_value xq rfl rfl (Rg.fa da0 rfl (by simp [go_sem])) rfl (hW.keep (by decide))
                      | 1, ho, hi, hdep =>
                        cases ho
                        have da0 : ac.eval (.tmp 73) = .pointer (some ⟨b8, 0, none⟩) := hF.2.2.2 0 73 _ rfl (hdep ⟨0, .data⟩ (by simp) rfl)
                        obtain ⟨kq, hlo, hhi, hA⟩ := hW.range 0 2 (.inl rfl) (.inr ⟨8, rfl, (Rg.no_of (fun h => hcl 8 _ rfl (h) ⟨1, .data⟩ (by simp) rfl) hi)⟩)
                        exact Ord.ex_value xq rfl rfl (Rg.load da0 rfl (HL8.out _ (hA.b (by omega)))) rfl (hW.keep (by decide))
                      | 2, ho, hi, hdep =>
                        cases ho
                        have da0 : ac.eval (.tmp 0) = .pointer (some ⟨r, 0, none⟩) := hF.old 0 rfl
                        exact Ord.ex_value xq rfl rfl (Rg.mv da0 rfl) rfl (hW.keep (by decide))
                      | 3, ho, hi, hdep =>
                        cases ho
                        have da0 : ac.eval (.tmp 4) = .pointer (some ⟨w.heap.size, 0, none⟩) := hF.old 4 rfl
                        obtain ⟨kq, hlo, hhi, hA⟩ := hW.range 0 0 (.inl rfl) (.inr ⟨6, rfl, (Rg.no_of (fun h => hcl 6 _ rfl (h) ⟨3, .data⟩ (by simp) rfl) hi)⟩)
                        exact Ord.ex_value xq rfl rfl (Rg.load da0 rfl (HLD.out _ (hA.b (by omega)))) rfl (hW.keep (by decide))
                      | 4, ho, hi, hdep =>
                        cases ho
                        have da0 : ac.eval (.tmp 9) = .int .i64 (k : Int) := hF.old 9 rfl
                        exact Ord.ex_value xq rfl rfl (Rg.mv da0 rfl) rfl (hW.keep (by decide))
                      | 5, ho, hi, hdep =>
                        cases ho
                        have da0 : ac.eval (.tmp 2) = .int .i64 now := hF.old 2 rfl
                        exact Ord.ex_value xq rfl rfl (Rg.mv da0 rfl) rfl (hW.keep (by decide))
                      | 6, ho, hi, hdep =>
                        cases ho
                        have da0 : ac.eval (.tmp 75) = .pointer (some ⟨r, 0, none⟩) := hF.2.2.2 2 75 _ rfl (hdep ⟨2, .data⟩ (by simp) rfl)
                        have da1 : ac.eval (.tmp 76) = kv c := hF.2.2.2 3 76 _ rfl (hdep ⟨3, .data⟩ (by simp) rfl)
                        have da2 : ac.eval (.tmp 77) = .int .i64 (k : Int) := hF.2.2.2 4 77 _ rfl (hdep ⟨4, .data⟩ (by simp) rfl)
                        have da3 : ac.eval (.tmp 78) = .int .i64 now := hF.2.2.2 5 78 _ rfl (hdep ⟨5, .data⟩ (by simp) rfl)
                        have hA := hW.at (k := 0) rfl hi (.inl rfl)
                        exact Rg.ex_call xq rfl rfl (Rg.enter (args := #[.pointer (some ⟨r, 0, none⟩), kv c, .int .i64 (k : Int), .int .i64 now]) rfl rfl (by simp [da0, da1, da2, da3]) EAC.out) (Calls.mono (HAC.out _ (hA.b (by decide))) (by rintro e w2 ⟨rfl, hB⟩; exact ⟨rfl, hW.next (k := 0) rfl (by decide) hi (.inl rfl) (hA.one hB)⟩))
                      | 7, ho, hi, hdep =>
                        cases ho
                        have da0 : ac.eval (.tmp 79) = .agg #[.int .i64 (ak0 k).by_, .bool (ak0 k).mv, .int .i64 (ak0 k).tr, .int .i64 (ak0 k).lo] := hF.2.2.2 6 79 _ rfl (hdep ⟨6, .data⟩ (by simp) rfl)
                        have hA := hW.at (k := 1) rfl hi (.inr ⟨6, rfl, (hdep ⟨6, .data⟩ (by simp) rfl)⟩)
                        exact Ord.ex_letter xq (w'.heap.size, xq.2) rfl rfl (Rg.bsl rfl (by simp [da0]) (run_bsAk (ak0 k) _)) rfl (fun j hj => match j, hj with | 0, _ => rfl | 1, _ => rfl | 2, _ => rfl | 3, _ => rfl | 4, _ => rfl | 5, _ => rfl | 6, _ => rfl | 7, hj => absurd hj (by rw [hi]; decide) | 8, _ => rfl | 9, _ => rfl | 10, _ => rfl | _ + 11, _ => rfl) (hW.next (k := 1) rfl (by decide) hi (.inr ⟨6, rfl, (hdep ⟨6, .data⟩ (by simp) rfl)⟩) hA.two)
                      | 8, ho, hi, hdep =>
                        cases ho
                        have da0 : ac.eval (.tmp 74) = pv := hF.2.2.2 1 74 _ rfl (hdep ⟨1, .data⟩ (by simp) rfl)
                        have da1 : ac.eval (.tmp 80) = .slice (some ⟨xq.1, 0, none⟩) 1 1 := hF.2.2.2 7 80 _ rfl (hdep ⟨7, .data⟩ (by simp) rfl)
                        have hA := hW.at (k := 2) rfl hi (.inr ⟨7, rfl, (hdep ⟨7, .data⟩ (by simp) rfl)⟩)
                        obtain ⟨v', w2, hr, hA2⟩ := hA.three HP.out.2.2.2.2.2.2 HP.out.2.2.2.2.2.1 HK8.out HBASE.out 32
                        exact Ord.ex_letter xq (xq.1, v') rfl rfl (Rg.app da0 da1 rfl hr) rfl (fun j hj => match j, hj with | 0, _ => rfl | 1, _ => rfl | 2, _ => rfl | 3, _ => rfl | 4, _ => rfl | 5, _ => rfl | 6, _ => rfl | 7, _ => rfl | 8, hj => absurd hj (by rw [hi]; decide) | 9, _ => rfl | 10, _ => rfl | _ + 11, _ => rfl) (hW.next (k := 2) rfl (by decide) hi (.inr ⟨7, rfl, (hdep ⟨7, .data⟩ (by simp) rfl)⟩) hA2)
                      | 9, ho, hi, hdep =>
                        cases ho
                        have da0 : ac.eval (.tmp 8) = .pointer (some ⟨b8, 0, none⟩) := hF.old 8 rfl
                        exact Ord.ex_value xq rfl rfl (Rg.fa da0 rfl (by simp [go_sem])) rfl (hW.keep (by decide))
                      | 10, ho, hi, hdep =>
                        cases ho
                        have da0 : ac.eval (.tmp 82) = .pointer (some ⟨b8, 0, none⟩) := hF.2.2.2 9 82 _ rfl (hdep ⟨9, .data⟩ (by simp) rfl)
                        have da1 : ac.eval (.tmp 81) = xq.2 := hF.2.2.2 8 81 _ rfl (hdep ⟨8, .data⟩ (by simp) rfl)
                        have hA := hW.at (k := 3) rfl hi (.inr ⟨8, rfl, (hdep ⟨8, .data⟩ (by simp) rfl)⟩)
                        obtain ⟨hr, hA2⟩ := hA.four HPL.out
                        exact Rg.ex_skip xq rfl rfl (Rg.sto da0 da1 rfl hr) rfl (hW.next (k := 3) rfl (by decide) hi (.inr ⟨8, rfl, (hdep ⟨8, .data⟩ (by simp) rfl)⟩) hA2)
                    case refine_3 => exact Rg.StM.first (PhA.first _ _ _ _ _ _ _)
                    case refine_2 =>
                      intro xu X2 hW
                      have hA := hW.last
                      clear hW
                      simp only [Ord.puts, Ord.prs]
                      go_simp
                      obtain ⟨q2, hm⟩ := hA.r (by decide)
                      have q8 := hA.f rfl
                      have hnf : ∀ {b : Nat} {cs : Array Value} {t : TypeId}, Has W b cs t → t ≠ 69 → b ≠ b8 → ¬ (pv.ownBlock = some b ∨ b = b8) := fun hh ht hb e => e.elim (fun e => Ba.own_ne HP.out.2.2.2.2.2.2 hh ht _ e rfl) hb
                      have HNEW : Hid (Below w.heap.size w X2 ∧ Has X2 w.heap.size (kcs c) 48 ∧ Has X2 (w.heap.size + 1) #[.slice none 0 0, .int .i64 0, .int .i64 0] 34 ∧ Ro D X2 r v P n c0 L ∧ Rp Q X2 c q ∧ Has X2 b8 #[xu.2, .int .i64 0, .int .i64 0] 34 ∧ X2.ownsRow w.heap.size 69 4 xu.2 (k + 1) (akc ak0 (k + 1))) := by
                        have hl8 := HI9.out.2.2.2.1
                        have hob : ∀ j, pv.ownBlock = some j → w.heap.size ≤ j := fun j hj => (HP.out.2.2.2.2.2.2.lt j hj).1
                        refine ⟨HP.out.1.trans (hm.below HP.out.1.size (fun j hj => hj.elim (hob j) (fun e => by omega))), hm.has HP.out.2.1 (hnf HP.out.2.1 (by decide) (by omega)), hm.has HP.out.2.2.1 (hnf HP.out.2.2.1 (by decide) (by omega)), HP.out.2.2.2.1.stay hm (fun j hj e => ?_) (fun j cur _ hh e => hnf hh (by decide) (fun e => by subst e; exact hh.ne HP.out.2.2.2.2.2.1 (by decide) rfl) e), HP.out.2.2.2.2.1.stay hm (fun j hj e => ?_), q8, q2⟩
                        · have := HFC.out j hj
                          exact e.elim (fun e => by have := hob j e; omega) (fun e => by omega)
                        · have := (HQF.out j hj).1
                          exact e.elim (fun e => by have := hob j e; omega) (fun e => by omega)
                      clear hA q2 hm q8 hnf
                      go_wp2
                      go_roundw
                      case rel => exact ⟨k + 1, xu.2, by simp, by omega, HNEW.out⟩
                      case measure => simp only [intOf]; omega
                  · obtain rfl : n = k := by omega
                    have hnl : ¬ ((n : Int) < (n : Int)) := by omega
                    obtain ⟨ap, cap, rfl, hcap, hap, HAW⟩ := Aw.of_own HP.out.2.2.2.2.2.2 (by have := HN18.out; omega)
                    obtain ⟨W2, hW2⟩ : ∃ W2, W2 = wr := ⟨_, rfl⟩
                    rw [← hW2] at HP HAW c0_ ⊢
                    obtain ⟨z, hz⟩ : ∃ z, z = L.length := ⟨_, rfl⟩
                    have HZ := hidden hz
                    have HZ1 : Hid (z ≤ 1001) := by rw [hz]; exact HLK.out.1
                    obtain ⟨aa, ca, hv, hca, _⟩ := HP.out.2.2.2.1.rw_.slice
                    rw [HP.out.2.2.2.1.len, ← hz] at hv
                    have HV := hidden hv
                    have HCA := hidden hca
                    have c2 := HP.out.2.2.2.1.q.cell 2 rfl
                    rw [hv] at c2
                    obtain ⟨mb, m1, m2, m3, m4⟩ := make_wide (P := Try.prog) Try.underlying60 info_bool z (by have := HZ1.out; omega) (by have := HZ1.out; omega)
                    obtain ⟨nb, hnb⟩ : ∃ nb, nb = W2.heap.size := ⟨_, rfl⟩
                    have hBm := m3 W2
                    have hbw := Bw.made (m2 W2)
                    rw [← hnb] at hbw
                    have HL0 : Hid (Lp D Q w (mb W2) r v n c0 c q (L) b8 ap cap (ak0) nb z (fun _ => false) (0) (0)) :=
                      ⟨⟨P, HP.out.2.2.2.1.later hBm⟩, Mod.of_below (HP.out.1.trans (hBm.mono HP.out.1.size)), HP.out.2.1.later hBm, HP.out.2.2.1.later hBm, HP.out.2.2.2.2.2.1.later hBm, HAW.later hBm, hbw, HP.out.2.2.2.2.1.later hBm, HI9.out.2.2.2.1, hap, by rw [hnb]; exact HP.out.1.size, HFC.out, HQF.out⟩
                    have HMB : Hid (mb W2 = mb W2) := rfl
                    have HCAP := hidden hcap
                    have HAP := hidden hap
                    have HNB := hidden hnb
                    clear hv hz hap hcap hca hBm hbw HAW hW2 hnb
                    go_upto_region 15 with fail
                    rw [← HNB.out]
                    generalize mb W2 = W3 at *
                    clear m1 m2 m3 m4 c2 c0_ HMB HNB
                    have HI3 : Hid (Lp D Q w W3 r v n c0 c q (up 0 (fun i x => f4 nl gd i (f3 tl i x)) L) b8 ap cap (ak0) nb z (fun j => decide (j < 0) && nl j) (sI (frF nl gd) (L3 tl L) 0) (sI (rnF tl) L 0)) := HL0.out.congr up_zero.symm (fun _ _ => rfl) (fun i _ => by simp) rfl rfl
                    clear HL0
                    go_wp2_with fail
                    go_loopw [11] (fun d X => ∃ k : Nat, d = .int .i64 (k : Int) ∧ k ≤ z ∧ Hid (Lp D Q w X r v n c0 c q (up k (fun i x => f4 nl gd i (f3 tl i x)) L) b8 ap cap (ak0) nb z (fun j => decide (j < k) && nl j) (sI (frF nl gd) (L3 tl L) k) (sI (rnF tl) L k))) (fun d X => z - (intOf d).toNat)
                    case atStart => exact ⟨0, rfl, Nat.zero_le _, HI3.out⟩
                    case round =>
                      obtain ⟨k, rfl, hkz, HI⟩ := hrel
                      have hwk : IntKind.i64.wrap ((k : Int) + 1) = (k : Int) + 1 := by have := HZ1.out; rw [IntKind.wrap_i64]; omega
                      have c2 := HI.out.rq.cell 2 rfl
                      rw [HV.out] at c2
                      by_cases hlt : (k : Int) < (z : Int)
                      · --A-BEGIN
                        obtain ⟨x, hx⟩ : ∃ x, L[k]? = some x := ⟨_, List.getElem?_eq_getElem (by rw [← HZ.out]; omega)⟩
                        obtain ⟨M, hM⟩ : ∃ M, M = up k (fun i x => f4 nl gd i (f3 tl i x)) L := ⟨_, rfl⟩
                        obtain ⟨FR, hFR⟩ : ∃ FR, FR = sI (frF nl gd) (L3 tl L) k := ⟨_, rfl⟩
                        obtain ⟨RN, hRN⟩ : ∃ RN, RN = sI (rnF tl) L k := ⟨_, rfl⟩
                        rw [← hM, ← hFR, ← hRN] at HI
                        have hx1 : M[k]? = some x := by rw [hM]; exact up_here hx
                        have hml : M.length = z := by rw [hM, up_len, HZ.out]
                        have hkl : k < z := by omega
                        have hdl := (HLK.out.2 x (List.mem_of_getElem? hx)).1
                        have hFB := sI_bound (f := frF nl gd) (B := 65536) (by omega) (L3 tl L) k (fun i y _ hy => by
                          have hy2 : ∃ x, L[i]? = some x ∧ y = f3 tl i x := by
                            unfold L3 at hy
                            rw [List.getElem?_mapIdx] at hy
                            cases hx : L[i]? with
                            | none => rw [hx] at hy; cases hy
                            | some x => rw [hx] at hy; cases hy; exact ⟨x, rfl, rfl⟩
                          obtain ⟨x', hx', rfl⟩ := hy2
                          have h1 := (HLK.out.2 x' (List.mem_of_getElem? hx')).1
                          have h2 : sz (f3 tl i x') = sz x' := by unfold sz; rw [(f3_fix tl i x').2.2.2.1]
                          unfold frF
                          split
                          · rw [h2]; unfold sz; omega
                          · omega)
                        have hRB := sI_bound (f := rnF tl) (B := 65536) (by omega) L k (fun i x' _ hx' => by
                          have h1 := (HLK.out.2 x' (List.mem_of_getElem? hx')).1
                          unfold rnF
                          split
                          · unfold sz; omega
                          · omega)
                        rw [← hFR] at hFB
                        rw [← hRN] at hRB
                        have hsz : sz x ≤ 65536 := by unfold sz; omega
                        have hs0 := sz_nn x
                        have hz1 := HZ1.out
                        have hwF : IntKind.i64.wrap (FR + sz x) = FR + sz x := by rw [IntKind.wrap_i64]; omega
                        have hwR : IntKind.i64.wrap (RN + sz x) = RN + sz x := by rw [IntKind.wrap_i64]; omega
                        have HNK : Hid (nl k = (tl k && opn x)) := by show _ = _; rw [HEQ.out.2.2.2.2.2.1, nwl_at hx]
                        have HSU : Hid (∀ y, y = f4 nl gd k (f3 tl k x) → M.set k y = up (k + 1) (fun i x => f4 nl gd i (f3 tl i x)) L) := fun y hy => by rw [hM, hy]; exact up_set hx
                        have HFS : Hid (sI (frF nl gd) (L3 tl L) (k + 1) = FR + frF nl gd k (f3 tl k x)) := by
                          show _ = _
                          rw [sI_succ (show (L3 tl L)[k]? = some (f3 tl k x) by unfold L3; rw [List.getElem?_mapIdx, hx]; rfl), ← hFR]
                        have HRS : Hid (sI (rnF tl) L (k + 1) = RN + rnF tl k x) := by show _ = _; rw [sI_succ hx, ← hRN]
                        have HX := hidden (And.intro hx (And.intro hx1 (And.intro hml hkl)))
                        obtain ⟨g, oo, cp, a1, c1, e, hp, hc, hf⟩ := HI.out.open hx1
                        rw [HV.out, hml] at e
                        cases e
                        have HPL := hidden hp
                        clear hM hFR hRN hFB hRB hsz hs0 hdl hz1 hf
                        go_upto_region 18 with fail
                        obtain ⟨W, hW⟩ : ∃ W, W = wr := ⟨_, rfl⟩
                        rw [← hW] at HI hc c2 ⊢
                        have HLD : Hid (∀ X, Below W.heap.size W X → (Instr.loadAt 48 (.pointer (some ⟨w.heap.size, 0, none⟩))).run Try.prog X = .ok (kv c) X) := fun X hX => load15 (HI.out.hc.later hX)
                        have HL2 : Hid (∀ X, Below W.heap.size W X → (Instr.loadAt 55 (.pointer (some ⟨r, 2, none⟩))).run Try.prog X = .ok (.slice (some ⟨g, oo, none⟩) z ca) X) := fun X hX => by
                          have hh := (hX.cell (p := ⟨r, 2, none⟩) (cell_lt c2)).trans c2
                          simp [go_sem, hh]
                        have HLC : Hid (∀ X, Below W.heap.size W X → (Instr.loadAt 59 (.pointer (some ⟨g, oo + k * 14, none⟩))).run Try.prog X = .ok (ov x (.slice (some a1) x.p.d.length c1)) X) := fun X hX => load_cells (hc.later hX)
                        have HIX : Hid (∀ X, (Instr.indexAt 55 (.slice (some ⟨g, oo, none⟩) z ca) (.int .i64 (k : Int))).run Try.prog X = .ok (.pointer (some ⟨g, oo + k * 14, none⟩)) X) := fun X => by simp [go_sem, hlt]
                        obtain ⟨tk, htk⟩ : ∃ tk, tk = tl k := ⟨_, rfl⟩
                        obtain ⟨gk, hgk⟩ : ∃ gk, gk = gd k := ⟨_, rfl⟩
                        have HTG := hidden (And.intro htk hgk)
                        rw [← htk] at HNK
                        have HTE : Hid (∀ X, Below W.heap.size W X → Calls Try.prog 70 #[kv c, ov x (.slice (some a1) x.p.d.length c1)] X fun e w' => e = .returned (.tuple #[.bool tk, .bool gk]) ∧ Below X.heap.size X w') := fun X hX => by
                          have := r_tells (HI.out.rp.later hX) x (.slice (some a1) x.p.d.length c1) (HTSL.out x (List.mem_of_getElem? HX.out.1))
                          rw [(HTL.out k x HX.out.1).1, (HTL.out k x HX.out.1).2, ← htk, ← hgk] at this
                          exact this
                        have ETE : Hid (∀ (args : Array Value) (w : World), (callFunc 70 args).run Try.prog w = .ok (.enter 70 args) w) := enters_of Try.func70 (by kernel_rfl) rfl
                        clear hc hW htk hgk
                        refine Ord.wp_region_ex0 (X := Unit) (by kernel_rfl) 280 (fun xq => [(some 99, kv c), (some 100, .pointer (some ⟨r, 0, none⟩)), (some 101, .pointer (some ⟨r, 0, none⟩)), (some 102, .pointer (some ⟨r, 2, none⟩)), (some 103, .slice (some ⟨g, oo, none⟩) z ca), (some 104, .int .i64 (k : Int)), (some 105, .pointer (some ⟨g, oo + k * 14, none⟩)), (some 106, ov x (.slice (some a1) x.p.d.length c1)), (some 107, .tuple #[.bool tk, .bool gk]), (some 98, .tuple #[.bool tk, .bool gk]), (some 108, .bool tk), (some 109, .bool gk), (some 12, .bool tk), (some 13, .bool gk)]) [some 99, some 100, some 101, some 102, some 103, some 104, some 105, some 106, some 107, some 98, some 108, some 109, some 12, some 13] rfl (fun listed hsz hr => Ord.all_listedC (rank := [0, 1, 2, 3, 4, 5, 6, 7, 8, 9, 10, 11, 12, 13]) (by kernel_rfl) hsz hr) (by rfl) (fun _ => rfl) (by kernel_rfl) (Rg.StM [] (fun sk sx w' => Below W.heap.size W w')) (fun _ _ _ _ hL h => h.ext (n := 14) (by decide) hL) ?_ ?_ () ?_
                        case refine_1 =>
                          intro xq Lq iq oq ac w' ho hi hcl hdep hF hW
                          have f1 : ac.tmps.size = 280 := hF.1
                          match iq, ho, hi, hdep with
                          | 0, ho, hi, hdep =>
                            cases ho
                            have da0 : ac.eval (.tmp 4) = .pointer (some ⟨w.heap.size, 0, none⟩) := hF.old 4 rfl
                            exact Ord.ex_value xq rfl rfl (Rg.load da0 rfl (HLD.out _ hW.only)) rfl (hW.keep (by decide))
                          | 1, ho, hi, hdep =>
                            cases ho
                            have da0 : ac.eval (.tmp 0) = .pointer (some ⟨r, 0, none⟩) := hF.old 0 rfl
                            exact Ord.ex_value xq rfl rfl (Rg.mv da0 rfl) rfl (hW.keep (by decide))
                          | 2, ho, hi, hdep =>
                            cases ho
                            have da0 : ac.eval (.tmp 100) = .pointer (some ⟨r, 0, none⟩) := hF.2.2.2 1 100 _ rfl (hdep ⟨1, .data⟩ (by simp) rfl)
                            exact Ord.ex_value xq rfl rfl (Rg.nilc da0 rfl) rfl (hW.keep (by decide))
                          | 3, ho, hi, hdep =>
                            cases ho
                            have da0 : ac.eval (.tmp 101) = .pointer (some ⟨r, 0, none⟩) := hF.2.2.2 2 101 _ rfl (hdep ⟨2, .data⟩ (by simp) rfl)
                            exact Ord.ex_value xq rfl rfl (Rg.fa da0 rfl (by simp [go_sem])) rfl (hW.keep (by decide))
                          | 4, ho, hi, hdep =>
                            cases ho
                            have da0 : ac.eval (.tmp 102) = .pointer (some ⟨r, 2, none⟩) := hF.2.2.2 3 102 _ rfl (hdep ⟨3, .data⟩ (by simp) rfl)
                            exact Ord.ex_value xq rfl rfl (Rg.load da0 rfl (HL2.out _ hW.only)) rfl (hW.keep (by decide))
                          | 5, ho, hi, hdep =>
                            cases ho
                            have da0 : ac.eval (.tmp 11) = .int .i64 (k : Int) := hF.old 11 rfl
                            exact Ord.ex_value xq rfl rfl (Rg.mv da0 rfl) rfl (hW.keep (by decide))
                          | 6, ho, hi, hdep =>
                            cases ho
                            have da0 : ac.eval (.tmp 103) = .slice (some ⟨g, oo, none⟩) z ca := hF.2.2.2 4 103 _ rfl (hdep ⟨4, .data⟩ (by simp) rfl)
                            have da1 : ac.eval (.tmp 104) = .int .i64 (k : Int) := hF.2.2.2 5 104 _ rfl (hdep ⟨5, .data⟩ (by simp) rfl)
                            exact Ord.ex_value xq rfl rfl (Rg.ix da0 da1 rfl (HIX.out _)) rfl (hW.keep (by decide))
                          | 7, ho, hi, hdep =>
                            cases ho
                            have da0 : ac.eval (.tmp 105) = .pointer (some ⟨g, oo + k * 14, none⟩) := hF.2.2.2 6 105 _ rfl (hdep ⟨6, .data⟩ (by simp) rfl)
                            exact Ord.ex_value xq rfl rfl (Rg.load da0 rfl (HLC.out _ hW.only)) rfl (hW.keep (by decide))
                          | 8, ho, hi, hdep =>
                            cases ho
                            have da0 : ac.eval (.tmp 99) = kv c := hF.2.2.2 0 99 _ rfl (hdep ⟨0, .data⟩ (by simp) rfl)
                            have da1 : ac.eval (.tmp 106) = ov x (.slice (some a1) x.p.d.length c1) := hF.2.2.2 7 106 _ rfl (hdep ⟨7, .data⟩ (by simp) rfl)
                            obtain ⟨kq, hlo, hhi, hA⟩ := hW.range 0 0 (.inl rfl) (.inl rfl)
                            have hA := hW.only
                            exact Rg.ex_call xq rfl rfl (Rg.enter (args := #[kv c, ov x (.slice (some a1) x.p.d.length c1)]) rfl rfl (by simp [da0, da1]) ETE.out) (Calls.mono (HTE.out _ hA) (by rintro e w2 ⟨rfl, hB⟩; exact ⟨rfl, Rg.StM.nil (hA.trans (hB.mono hA.size))⟩))
                          | 9, ho, hi, hdep =>
                            cases ho
                            have da0 : ac.eval (.tmp 107) = .tuple #[.bool tk, .bool gk] := hF.2.2.2 8 107 _ rfl (hdep ⟨8, .data⟩ (by simp) rfl)
                            exact Ord.ex_value xq rfl rfl (Rg.mv da0 rfl) rfl (hW.keep (by decide))
                          | 10, ho, hi, hdep =>
                            cases ho
                            have da0 : ac.eval (.tmp 98) = .tuple #[.bool tk, .bool gk] := hF.2.2.2 9 98 _ rfl (hdep ⟨9, .data⟩ (by simp) rfl)
                            exact Ord.ex_value xq rfl rfl (Rg.ext da0 rfl rfl) rfl (hW.keep (by decide))
                          | 11, ho, hi, hdep =>
                            cases ho
                            have da0 : ac.eval (.tmp 98) = .tuple #[.bool tk, .bool gk] := hF.2.2.2 9 98 _ rfl (hdep ⟨9, .data⟩ (by simp) rfl)
                            exact Ord.ex_value xq rfl rfl (Rg.ext da0 rfl rfl) rfl (hW.keep (by decide))
                          | 12, ho, hi, hdep =>
                            cases ho
                            have da0 : ac.eval (.tmp 108) = .bool tk := hF.2.2.2 10 108 _ rfl (hdep ⟨10, .data⟩ (by simp) rfl)
                            exact Ord.ex_value xq rfl rfl (Rg.asg da0 rfl) rfl (hW.keep (by decide))
                          | 13, ho, hi, hdep =>
                            cases ho
                            have da0 : ac.eval (.tmp 109) = .bool gk := hF.2.2.2 11 109 _ rfl (hdep ⟨11, .data⟩ (by simp) rfl)
                            exact Ord.ex_value xq rfl rfl (Rg.asg da0 rfl) rfl (hW.keep (by decide))
                        case refine_3 => exact Rg.StM.first (Below.refl _ _).drew
                        case refine_2 =>
                          intro xu X2 hW
                          have hA := hW.last
                          clear hW
                          simp only [Ord.puts, Ord.prs]
                          go_simp
                          have HI2 := hidden (HI.out.later hA)
                          clear HI HLD HL2 HLC HTE ETE hA c2
                          go_upto_region 19 with fail
                          go_cut [] from 300 (fun wx => Hid (Lp D Q w wx r v n c0 c q (M) b8 ap cap (ak0) nb z (fun j => if j = k then nl k else decide (j < k) && nl j) (FR) (RN)))
                          case first =>
                            have hq := HI2.out.rq.cell 2 rfl
                            rw [HV.out] at hq
                            obtain ⟨g', oo', cp', a1', c1', e', hp, hcx, hf⟩ := HI2.out.open HX.out.2.1
                            rw [HV.out, HX.out.2.2.1] at e'
                            cases e'
                            obtain ⟨m0, m1, m2, m3, m4, m5, m6, m7, m8, m9, m10, m11, m12, m13⟩ := hcx.all14
                            have nc := HI2.out.nw.cell (j := k) HX.out.2.2.2
                            have nf := HI2.out.nw.frozen k
                            cases tk with
                            | false =>
                              have HNF : Hid (nl k = false) := by show _ = _; rw [HNK.out]; rfl
                              clear hcx hf hp m0 m1 m2 m3 m4 m5 m6 m7 m8 m9 m10 m11 m12 m13
                              go_wp2_with fail
                              go_meet
                              case rel => exact (HI2.out.sN HX.out.2.2.2 false).congr rfl (fun _ _ => rfl) (fun j _ => by simp only [HNF.out]) rfl rfl
                            | true =>
                              have HNF : Hid (nl k = opn x) := by show _ = _; rw [HNK.out]; rfl
                              have OP := hidden (r_open x (.slice (some a1') x.p.d.length c1') X2)
                              clear hcx hf hp
                              go_wp2_with fail
                              clear m0 m1 m2 m3 m4 m5 m6 m7 m8 m9 m10 m11 m12 m13 hq nc nf
                              refine Calls.mono OP.out ?_
                              rintro e X3 ⟨rfl, hB3⟩
                              have HI4 := hidden (HI2.out.later hB3)
                              have nc := HI4.out.nw.cell (j := k) HX.out.2.2.2
                              have nf := HI4.out.nw.frozen k
                              clear hB3
                              go_wp2_with fail
                              go_meet
                              case rel => exact (HI4.out.sN HX.out.2.2.2 (opn x)).congr rfl (fun _ _ => rfl) (fun j _ => by simp only [HNF.out]) rfl rfl
                          case rest =>
                            have HJ := hcut
                            clear hcut HI2
                            have hq := HJ.out.rq.cell 2 rfl
                            rw [HV.out] at hq
                            obtain ⟨g', oo', cp', a1', c1', e', hp, hcx, hf⟩ := HJ.out.open HX.out.2.1
                            rw [HV.out, HX.out.2.2.1] at e'
                            cases e'
                            obtain ⟨m0, m1, m2, m3, m4, m5, m6, m7, m8, m9, m10, m11, m12, m13⟩ := hcx.all14
                            have HMP := hidden hp
                            go_upto_region 21 with fail
                            go_cut [138] from 300 (fun s wx => s = .bool (!tk && (x.st == 3)) ∧ Hid (wc = wx))
                            case first =>
                              clear m0 m1 m2 m3 m4 m5 m7 m8 m9 m10 m11 m12 m13
                              cases tk with
                              | false =>
                                go_wp2_with fail
                                go_meet
                                case rel => exact ⟨rfl, rfl⟩
                              | true =>
                                go_wp2_with fail
                                go_meet
                                case rel => exact ⟨rfl, rfl⟩
                            case rest =>
                              obtain ⟨rfl, hw⟩ := hcut
                              have hw := hw.out
                              subst hw
                              go_upto_if 138 with fail
                              go_cut [] from 138 to 138 (fun wx => Hid (Lp D Q w wx r v n c0 c q (M.set k (f3 tl k x)) b8 ap cap (ak0) nb z (fun j => if j = k then nl k else decide (j < k) && nl j) (FR) (RN + rnF tl k x)))
                              case first =>
                                clear m0 m1 m2 m3 m5 m7 m8 m9 m10 m11 m12 m13
                                have hfa := hf (oo + k * 14 + 6)
                                have hfb := hf (oo + k * 14 + 4)
                                cases hb : (!tk && (x.st == 3)) with
                                | false =>
                                  have HF3 : Hid (f3 tl k x = x ∧ rnF tl k x = 0) := by
                                    have hn : ¬ (x.st = 3 ∧ tl k = false) := fun e => by
                                      rw [HTG.out.1, e.2, e.1] at hb
                                      exact absurd hb (by decide)
                                    exact ⟨by unfold f3; rw [if_neg hn], by unfold rnF; rw [if_neg hn]⟩
                                  clear hb m4 m6 hfa hfb hf hcx
                                  go_wp2_with fail
                                  go_meet
                                  case rel => exact HJ.out.congr (by rw [HF3.out.1, set_self HX.out.2.1]) (fun _ _ => rfl) (fun _ _ => rfl) rfl (by rw [HF3.out.2]; omega)
                                | true =>
                                  have HB3 : Hid (x.st = 3 ∧ tl k = false) := by
                                    rw [Bool.and_eq_true] at hb
                                    have h1 := HTG.out.1
                                    cases tk with
                                    | true => exact absurd hb.1 (by decide)
                                    | false => exact ⟨by simpa using hb.2, h1.symm⟩
                                  have HF3 : Hid (f3 tl k x = { x with st := 2, mi := 0 } ∧ rnF tl k x = sz x) := ⟨by unfold f3; rw [if_pos HB3.out], by unfold rnF; rw [if_pos HB3.out]⟩
                                  clear hb
                                  go_upto_region 23 with fail
                                  have hs1 := HJ.out.setC (y := { x with st := 2 }) (cc_ := 6) (u := .int .i64 2) HMP.out HX.out.2.1 (by decide) (fun _ => rfl) rfl
                                  have hs2 := hs1.setC (y := { x with st := 2, mi := 0 }) (cc_ := 4) (u := .int .i64 0) HMP.out (set_at HX.out.2.1) (by decide) (fun _ => rfl) rfl
                                  rw [set_set] at hs2
                                  obtain ⟨WS, hWS⟩ : ∃ WS, WS = (wc.setCell ⟨g, oo + k * 14 + 6, none⟩ (.int .i64 2)).setCell ⟨g, oo + k * 14 + 4, none⟩ (.int .i64 0) := ⟨_, rfl⟩
                                  rw [← hWS] at hs2 ⊢
                                  have HS := hidden hs2
                                  obtain ⟨g', oo', cp', a2, c2', e', _, hc2, _⟩ := hs2.open (set_at HX.out.2.1)
                                  rw [HV.out] at e'
                                  simp only [List.length_set, HX.out.2.2.1] at e'
                                  cases e'
                                  have HLC : Hid (∀ X, Below WS.heap.size WS X → (Instr.loadAt 59 (.pointer (some ⟨g, oo + k * 14, none⟩))).run Try.prog X = .ok (ov { x with st := 2, mi := 0 } (.slice (some a2) x.p.d.length c2')) X) := fun X hX => load_cells (hc2.later hX)
                                  have HLR : Hid (∀ X, Below WS.heap.size WS X → (Instr.loadAt 3 (.pointer (some ⟨b8, 2, none⟩))).run Try.prog X = .ok (.int .i64 RN) X) := fun X hX => by
                                    have hh := (HS.out.later hX).h8.cell 2 rfl
                                    simp [go_sem, hh]
                                  have HSR : Hid (∀ X, Below WS.heap.size WS X → (Instr.storeAt 3 (.pointer (some ⟨b8, 2, none⟩)) (.int .i64 (RN + sz x))).run Try.prog X = .ok () (X.setCell ⟨b8, 2, none⟩ (.int .i64 (RN + sz x)))) := fun X hX => by
                                    have hh := (HS.out.later hX).h8.cell 2 rfl
                                    have hfr := (HS.out.later hX).h8.frozen 2
                                    simp [go_sem, hh, hfr]
                                  have SZ : Hid (∀ X, Calls Try.prog 72 #[ov { x with st := 2, mi := 0 } (.slice (some a2) x.p.d.length c2')] X fun e w' => e = .returned (.int .i64 (sz x)) ∧ Below X.heap.size X w') := fun X => r_size { x with st := 2, mi := 0 } (u := .slice (some a2) x.p.d.length c2') ⟨_, _, rfl⟩ X
                                  have ESZ : Hid (∀ (args : Array Value) (w : World), (callFunc 72 args).run Try.prog w = .ok (.enter 72 args) w) := enters_of Try.func72 (by kernel_rfl) rfl
                                  clear hs1 hs2 hWS hc2 m4 m6 hfa hfb hf hcx hq
                                  refine Ord.wp_region_ex0 (X := Unit) (by kernel_rfl) 280 (fun xq => [(some 145, .pointer (some ⟨b8, 2, none⟩)), (some 146, .int .i64 RN), (some 147, .pointer (some ⟨g, oo + k * 14, none⟩)), (some 148, .pointer (some ⟨g, oo + k * 14, none⟩)), (some 149, ov { x with st := 2, mi := 0 } (.slice (some a2) x.p.d.length c2')), (some 150, .int .i64 (sz x)), (some 151, .int .i64 (RN + sz x)), (some 152, .pointer (some ⟨b8, 2, none⟩)), (none, undef)]) [some 145, some 146, some 147, some 148, some 149, some 150, some 151, some 152, none] rfl (fun listed hsz hr => Ord.all_listedC (rank := [0, 1, 2, 3, 4, 5, 6, 7, 8]) (by kernel_rfl) hsz hr) (by rfl) (fun _ => rfl) (by kernel_rfl) (Rg.StM [5, 8] (fun sk sx w' => (sk ≤ 1 → Below WS.heap.size WS w') ∧ (sk = 2 → ∃ X, Below WS.heap.size WS X ∧ w' = X.setCell ⟨b8, 2, none⟩ (.int .i64 (RN + sz x))))) (fun _ _ _ _ hL h => h.ext (n := 9) (by decide) hL) ?_ ?_ () ?_
                                  case refine_1 =>
                                    intro xq Lq iq oq ac w' ho hi hcl hdep hF hW
                                    have f1 : ac.tmps.size = 280 := hF.1
                                    match iq, ho, hi, hdep with
                                    | 0, ho, hi, hdep =>
                                      cases ho
                                      have da0 : ac.eval (.tmp 8) = .pointer (some ⟨b8, 0, none⟩) := hF.old 8 rfl
                                      exact Ord.ex_value xq rfl rfl (Rg.fa da0 rfl (by simp [go_sem])) rfl (hW.keep (by decide))
                                    | 1, ho, hi, hdep =>
                                      cases ho
                                      have da0 : ac.eval (.tmp 145) = .pointer (some ⟨b8, 2, none⟩) := hF.2.2.2 0 145 _ rfl (hdep ⟨0, .data⟩ (by simp) rfl)
                                      obtain ⟨kq, hlo, hhi, hA⟩ := hW.range 0 1 (.inl rfl) (.inr ⟨8, rfl, (Rg.no_of (fun h => hcl 8 _ rfl (h) ⟨1, .phase⟩ (by simp) rfl) hi)⟩)
                                      exact Ord.ex_value xq rfl rfl (Rg.load da0 rfl (HLR.out _ (hA.1 (by omega)))) rfl (hW.keep (by decide))
                                    | 2, ho, hi, hdep =>
                                      cases ho
                                      have da0 : ac.eval (.tmp 14) = .pointer (some ⟨g, oo + k * 14, none⟩) := hF.old 14 rfl
                                      exact Ord.ex_value xq rfl rfl (Rg.mv da0 rfl) rfl (hW.keep (by decide))
                                    | 3, ho, hi, hdep =>
                                      cases ho
                                      have da0 : ac.eval (.tmp 147) = .pointer (some ⟨g, oo + k * 14, none⟩) := hF.2.2.2 2 147 _ rfl (hdep ⟨2, .data⟩ (by simp) rfl)
                                      exact Ord.ex_value xq rfl rfl (Rg.nilc da0 rfl) rfl (hW.keep (by decide))
                                    | 4, ho, hi, hdep =>
                                      cases ho
                                      have da0 : ac.eval (.tmp 148) = .pointer (some ⟨g, oo + k * 14, none⟩) := hF.2.2.2 3 148 _ rfl (hdep ⟨3, .data⟩ (by simp) rfl)
                                      obtain ⟨kq, hlo, hhi, hA⟩ := hW.range 0 0 (.inl rfl) (.inr ⟨5, rfl, (Rg.no_of (fun h => hcl 5 _ rfl (h) ⟨4, .data⟩ (by simp) rfl) hi)⟩)
                                      exact Ord.ex_value xq rfl rfl (Rg.load da0 rfl (HLC.out _ (hA.1 (by omega)))) rfl (hW.keep (by decide))
                                    | 5, ho, hi, hdep =>
                                      cases ho
                                      have da0 : ac.eval (.tmp 149) = ov { x with st := 2, mi := 0 } (.slice (some a2) x.p.d.length c2') := hF.2.2.2 4 149 _ rfl (hdep ⟨4, .data⟩ (by simp) rfl)
                                      have hA := hW.at (k := 0) rfl hi (.inl rfl)
                                      exact Rg.ex_call xq rfl rfl (Rg.enter (args := #[ov { x with st := 2, mi := 0 } (.slice (some a2) x.p.d.length c2')]) rfl rfl (by simp [da0]) ESZ.out) (Calls.mono (SZ.out _) (by rintro e w2 ⟨rfl, hB⟩; exact ⟨rfl, hW.next (k := 0) rfl (by decide) hi (.inl rfl) ⟨fun _ => (hA.1 (by decide)).trans (hB.mono (hA.1 (by decide)).size), fun e => absurd e (by decide)⟩⟩))
                                    | 6, ho, hi, hdep =>
                                      cases ho
                                      have da0 : ac.eval (.tmp 146) = .int .i64 RN := hF.2.2.2 1 146 _ rfl (hdep ⟨1, .data⟩ (by simp) rfl)
                                      have da1 : ac.eval (.tmp 150) = .int .i64 (sz x) := hF.2.2.2 5 150 _ rfl (hdep ⟨5, .data⟩ (by simp) rfl)
                                      exact Ord.ex_value xq rfl rfl (Rg.bin da0 da1 rfl (by simp [go_sem, hwR])) rfl (hW.keep (by decide))
                                    | 7, ho, hi, hdep =>
                                      cases ho
                                      have da0 : ac.eval (.tmp 8) = .pointer (some ⟨b8, 0, none⟩) := hF.old 8 rfl
                                      exact Ord.ex_value xq rfl rfl (Rg.fa da0 rfl (by simp [go_sem])) rfl (hW.keep (by decide))
                                    | 8, ho, hi, hdep =>
                                      cases ho
                                      have da0 : ac.eval (.tmp 152) = .pointer (some ⟨b8, 2, none⟩) := hF.2.2.2 7 152 _ rfl (hdep ⟨7, .data⟩ (by simp) rfl)
                                      have da1 : ac.eval (.tmp 151) = .int .i64 (RN + sz x) := hF.2.2.2 6 151 _ rfl (hdep ⟨6, .data⟩ (by simp) rfl)
                                      have hA := hW.at (k := 1) rfl hi (.inr ⟨5, rfl, (hdep ⟨5, .chain⟩ (by simp) rfl)⟩)
                                      exact Rg.ex_skip xq rfl rfl (Rg.sto da0 da1 rfl (HSR.out _ (hA.1 (by decide)))) rfl (hW.next (k := 1) rfl (by decide) hi (.inr ⟨5, rfl, (hdep ⟨5, .chain⟩ (by simp) rfl)⟩) ⟨fun e => absurd e (by decide), fun _ => ⟨_, hA.1 (by decide), rfl⟩⟩)
                                  case refine_3 => exact Rg.StM.first ⟨fun _ => (Below.refl _ _).drew, fun e => absurd e (by decide)⟩
                                  case refine_2 =>
                                    intro v' w2 hW
                                    obtain ⟨X, hBX, hw2⟩ := hW.last.2 rfl
                                    have HW2 := hidden hw2
                                    clear hW hw2
                                    simp only [Ord.puts, Ord.prs]
                                    go_simp
                                    have HBX := hidden hBX
                                    clear hBX
                                    go_wp2_with fail
                                    go_meet
                                    case rel =>
                                      rw [HW2.out]
                                      exact ((HS.out.later HBX.out).s8 (j := 2) (u := .int .i64 (RN + sz x)) rfl).congr (by rw [HF3.out.1]) (fun _ _ => rfl) (fun _ _ => rfl) rfl (by rw [HF3.out.2])
                              case rest =>
                                have HK := hcut
                                clear hcut HJ m0 m1 m2 m3 m4 m5 m6 m7 m8 m9 m10 m11 m12 m13 hq hf hcx hp
                                obtain ⟨y3, hy3⟩ : ∃ y3, y3 = f3 tl k x := ⟨_, rfl⟩
                                have HY3 : Hid (y3 = f3 tl k x ∧ y3.p = x.p) := ⟨hy3, by rw [hy3]; exact (f3_fix tl k x).2.2.2.1⟩
                                rw [← hy3] at HK HFS
                                clear hy3
                                have hq := HK.out.rq.cell 2 rfl
                                rw [HV.out] at hq
                                obtain ⟨nk, hnk⟩ : ∃ nk, nk = nl k := ⟨_, rfl⟩
                                have HNN := hidden hnk
                                have nc := HK.out.nw.cell (j := k) HX.out.2.2.2
                                rw [if_pos rfl, ← hnk] at nc
                                clear hnk
                                go_upto_if 156 with fail
                                go_cut [] from 300 (fun wx => Hid (Lp D Q w wx r v n c0 c q (M.set k (f4a nl k y3)) b8 ap cap (ak0) nb z (fun j => if j = k then nl k else decide (j < k) && nl j) (FR) (RN + rnF tl k x)))
                                case first =>
                                  have hq := HK.out.rq.cell 2 rfl
                                  rw [HV.out] at hq
                                  obtain ⟨g', oo', cp', a1', c1', e', hp, hcx, hf⟩ := HK.out.open (set_at HX.out.2.1)
                                  rw [HV.out, List.length_set, HX.out.2.2.1] at e'
                                  cases e'
                                  obtain ⟨m0, m1, m2, m3, m4, m5, m6, m7, m8, m9, m10, m11, m12, m13⟩ := hcx.all14
                                  have HMP3 := hidden hp
                                  have hfa := hf (oo + k * 14 + 6)
                                  clear m0 m1 m2 m3 m4 m5 m7 m8 m9 m10 m11 m12 m13
                                  cases nk with
                                  | false =>
                                    have HF4 : Hid (f4a nl k y3 = y3) := by show _ = _; unfold f4a; rw [if_neg (by rw [← HNN.out]; decide)]
                                    clear hf hcx m6 hfa
                                    go_wp2_with fail
                                    go_meet
                                    case rel => exact HK.out.congr (by rw [HF4.out]) (fun _ _ => rfl) (fun _ _ => rfl) rfl rfl
                                  | true =>
                                    have HF4 : Hid (f4a nl k y3 = { y3 with st := 3 }) := by show _ = _; unfold f4a; rw [if_pos HNN.out.symm]
                                    clear hf hcx
                                    go_wp2_with fail
                                    go_meet
                                    case rel =>
                                      have hs1 := HK.out.setC (y := { y3 with st := 3 }) (cc_ := 6) (u := .int .i64 3) HMP3.out (set_at HX.out.2.1) (by decide) (fun _ => rfl) rfl
                                      rw [set_set] at hs1
                                      exact hs1.congr (by rw [HF4.out]) (fun _ _ => rfl) (fun _ _ => rfl) rfl rfl
                                case rest =>
                                  have HE4 := hcut
                                  clear hcut HK nc hq
                                  obtain ⟨y4, hy4⟩ : ∃ y4, y4 = f4a nl k y3 := ⟨_, rfl⟩
                                  have HY4 : Hid (y4 = f4a nl k y3 ∧ y4.p = x.p) := ⟨hy4, by rw [hy4, ← HY3.out.2]; unfold f4a; split <;> rfl⟩
                                  rw [← hy4] at HE4
                                  clear hy4
                                  have hq := HE4.out.rq.cell 2 rfl
                                  rw [HV.out] at hq
                                  obtain ⟨g', oo', cp', a1', c1', e', hp, hcx, hf⟩ := HE4.out.open (set_at HX.out.2.1)
                                  rw [HV.out, List.length_set, HX.out.2.2.1] at e'
                                  cases e'
                                  obtain ⟨m0, m1, m2, m3, m4, m5, m6, m7, m8, m9, m10, m11, m12, m13⟩ := hcx.all14
                                  have HMP4 := hidden hp
                                  have hfa := hf (oo + k * 14 + 6)
                                  have HA1 : Hid (a1' = a1' ∧ y4.p.d.length = x.p.d.length) := ⟨rfl, by rw [HY4.out.2]⟩
                                  go_upto_region 26 with fail
                                  go_cut [167] from 300 (fun s wx => s = .bool (gk && (y4.st == 3)) ∧ Hid (wc = wx))
                                  case first =>
                                    clear m0 m1 m2 m3 m4 m5 m7 m8 m9 m10 m11 m12 m13
                                    cases gk with
                                    | false =>
                                      go_wp2_with fail
                                      go_meet
                                      case rel => exact ⟨rfl, rfl⟩
                                    | true =>
                                      go_wp2_with fail
                                      go_meet
                                      case rel => exact ⟨rfl, rfl⟩
                                  case rest =>
                                    obtain ⟨rfl, hw⟩ := hcut
                                    have hw := hw.out
                                    subst hw
                                    have HNF1 : Hid (∀ j, (if j = k then nl k else decide (j < k) && nl j) = (decide (j < k + 1) && nl j)) := fun j => by
                                      by_cases e : j = k
                                      · subst e; simp
                                      · rw [if_neg e, show decide (j < k + 1) = decide (j < k) by by_cases h : j < k <;> simp <;> omega]
                                    cases hb : (gk && (y4.st == 3)) with
                                    | false =>
                                      have HF5 : Hid (f4 nl gd k y3 = y4 ∧ frF nl gd k y3 = 0) := by
                                        have hn : ¬ (gd k = true ∧ (f4a nl k y3).st = 3) := fun e => by
                                          rw [← HY4.out.1, ← HTG.out.2] at e
                                          rw [e.1, e.2] at hb
                                          exact absurd hb (by decide)
                                        exact ⟨by unfold f4; rw [if_neg hn, HY4.out.1], by unfold frF; rw [if_neg hn]⟩
                                      clear hb hf hcx hfa m0 m1 m2 m3 m4 m5 m6 m7 m8 m9 m10 m11 m12 m13 hq
                                      go_wp2
                                      go_roundw
                                      case rel => exact ⟨k + 1, by simp, by omega, HE4.out.congr (HSU.out y4 (by rw [← HY3.out.1, HF5.out.1])) (fun _ _ => rfl) (fun j _ => HNF1.out j) (by rw [HFS.out, HF5.out.2]; omega) HRS.out.symm⟩
                                      case measure => simp only [intOf]; omega
                                    | true =>
                                      have HB5 : Hid (gd k = true ∧ (f4a nl k y3).st = 3) := by
                                        rw [Bool.and_eq_true] at hb
                                        exact ⟨by rw [← HTG.out.2]; exact hb.1, by rw [← HY4.out.1]; simpa using hb.2⟩
                                      have HF5 : Hid (f4 nl gd k y3 = { y4 with st := 4 } ∧ frF nl gd k y3 = sz x) := by
                                        refine ⟨by unfold f4; rw [if_pos HB5.out, HY4.out.1]; unfold f4a; split <;> rfl, by unfold frF; rw [if_pos HB5.out]; unfold sz; rw [HY3.out.2]⟩
                                      clear hb m0 m1 m2 m3 m4 m5 m7 m8 m9 m10 m11 m12 m13
                                      go_upto_region 28 with fail
                                      have hs2 := HE4.out.setC (y := { y4 with st := 4 }) (cc_ := 6) (u := .int .i64 4) HMP4.out (set_at HX.out.2.1) (by decide) (fun _ => rfl) rfl
                                      rw [set_set] at hs2
                                      obtain ⟨WS, hWS⟩ : ∃ WS, WS = wc.setCell ⟨g, oo + k * 14 + 6, none⟩ (.int .i64 4) := ⟨_, rfl⟩
                                      rw [← hWS] at hs2 ⊢
                                      have HS := hidden hs2
                                      obtain ⟨g', oo', cp', a2, c2', e', _, hc2, _⟩ := hs2.open (set_at HX.out.2.1)
                                      rw [HV.out] at e'
                                      simp only [List.length_set, HX.out.2.2.1] at e'
                                      cases e'
                                      have HLC : Hid (∀ X, Below WS.heap.size WS X → (Instr.loadAt 59 (.pointer (some ⟨g, oo + k * 14, none⟩))).run Try.prog X = .ok (ov { y4 with st := 4 } (.slice (some a2) y4.p.d.length c2')) X) := fun X hX => load_cells (hc2.later hX)
                                      have HLR : Hid (∀ X, Below WS.heap.size WS X → (Instr.loadAt 3 (.pointer (some ⟨b8, 1, none⟩))).run Try.prog X = .ok (.int .i64 FR) X) := fun X hX => by
                                        have hh := (HS.out.later hX).h8.cell 1 rfl
                                        simp [go_sem, hh]
                                      have HSR : Hid (∀ X, Below WS.heap.size WS X → (Instr.storeAt 3 (.pointer (some ⟨b8, 1, none⟩)) (.int .i64 (FR + sz x))).run Try.prog X = .ok () (X.setCell ⟨b8, 1, none⟩ (.int .i64 (FR + sz x)))) := fun X hX => by
                                        have hh := (HS.out.later hX).h8.cell 1 rfl
                                        have hfr := (HS.out.later hX).h8.frozen 1
                                        simp [go_sem, hh, hfr]
                                      have SZ : Hid (∀ X, Calls Try.prog 72 #[ov { y4 with st := 4 } (.slice (some a2) y4.p.d.length c2')] X fun e w' => e = .returned (.int .i64 (sz x)) ∧ Below X.heap.size X w') := fun X => by
                                        have := r_size { y4 with st := 4 } (u := .slice (some a2) y4.p.d.length c2') ⟨_, _, rfl⟩ X
                                        have e : sz { y4 with st := 4 } = sz x := by unfold sz; rw [HY4.out.2]
                                        rw [e] at this
                                        exact this
                                      have ESZ : Hid (∀ (args : Array Value) (w : World), (callFunc 72 args).run Try.prog w = .ok (.enter 72 args) w) := enters_of Try.func72 (by kernel_rfl) rfl
                                      clear hs2 hWS hc2 m6 hfa hf hcx hq
                                      refine Ord.wp_region_ex0 (X := Unit) (by kernel_rfl) 280 (fun xq => [(some 171, .pointer (some ⟨b8, 1, none⟩)), (some 172, .int .i64 FR), (some 173, .pointer (some ⟨g, oo + k * 14, none⟩)), (some 174, .pointer (some ⟨g, oo + k * 14, none⟩)), (some 175, ov { y4 with st := 4 } (.slice (some a2) y4.p.d.length c2')), (some 176, .int .i64 (sz x)), (some 177, .int .i64 (FR + sz x)), (some 178, .pointer (some ⟨b8, 1, none⟩)), (none, undef)]) [some 171, some 172, some 173, some 174, some 175, some 176, some 177, some 178, none] rfl (fun listed hsz hr => Ord.all_listedC (rank := [0, 1, 2, 3, 4, 5, 6, 7, 8]) (by kernel_rfl) hsz hr) (by rfl) (fun _ => rfl) (by kernel_rfl) (Rg.StM [5, 8] (fun sk sx w' => (sk ≤ 1 → Below WS.heap.size WS w') ∧ (sk = 2 → ∃ X, Below WS.heap.size WS X ∧ w' = X.setCell ⟨b8, 1, none⟩ (.int .i64 (FR + sz x))))) (fun _ _ _ _ hL h => h.ext (n := 9) (by decide) hL) ?_ ?_ () ?_
                                      case refine_1 =>
                                        intro xq Lq iq oq ac w' ho hi hcl hdep hF hW
                                        have f1 : ac.tmps.size = 280 := hF.1
                                        match iq, ho, hi, hdep with
                                        | 0, ho, hi, hdep =>
                                          cases ho
                                          have da0 : ac.eval (.tmp 8) = .pointer (some ⟨b8, 0, none⟩) := hF.old 8 rfl
                                          exact Ord.ex_value xq rfl rfl (Rg.fa da0 rfl (by simp [go_sem])) rfl (hW.keep (by decide))
                                        | 1, ho, hi, hdep =>
                                          cases ho
                                          have da0 : ac.eval (.tmp 171) = .pointer (some ⟨b8, 1, none⟩) := hF.2.2.2 0 171 _ rfl (hdep ⟨0, .data⟩ (by simp) rfl)
                                          obtain ⟨kq, hlo, hhi, hA⟩ := hW.range 0 1 (.inl rfl) (.inr ⟨8, rfl, (Rg.no_of (fun h => hcl 8 _ rfl (h) ⟨1, .phase⟩ (by simp) rfl) hi)⟩)
                                          exact Ord.ex_value xq rfl rfl (Rg.load da0 rfl (HLR.out _ (hA.1 (by omega)))) rfl (hW.keep (by decide))
                                        | 2, ho, hi, hdep =>
                                          cases ho
                                          have da0 : ac.eval (.tmp 14) = .pointer (some ⟨g, oo + k * 14, none⟩) := hF.old 14 rfl
                                          exact Ord.ex_value xq rfl rfl (Rg.mv da0 rfl) rfl (hW.keep (by decide))
                                        | 3, ho, hi, hdep =>
                                          cases ho
                                          have da0 : ac.eval (.tmp 173) = .pointer (some ⟨g, oo + k * 14, none⟩) := hF.2.2.2 2 173 _ rfl (hdep ⟨2, .data⟩ (by simp) rfl)
                                          exact Ord.ex_value xq rfl rfl (Rg.nilc da0 rfl) rfl (hW.keep (by decide))
                                        | 4, ho, hi, hdep =>
                                          cases ho
                                          have da0 : ac.eval (.tmp 174) = .pointer (some ⟨g, oo + k * 14, none⟩) := hF.2.2.2 3 174 _ rfl (hdep ⟨3, .data⟩ (by simp) rfl)
                                          obtain ⟨kq, hlo, hhi, hA⟩ := hW.range 0 0 (.inl rfl) (.inr ⟨5, rfl, (Rg.no_of (fun h => hcl 5 _ rfl (h) ⟨4, .data⟩ (by simp) rfl) hi)⟩)
                                          exact Ord.ex_value xq rfl rfl (Rg.load da0 rfl (HLC.out _ (hA.1 (by omega)))) rfl (hW.keep (by decide))
                                        | 5, ho, hi, hdep =>
                                          cases ho
                                          have da0 : ac.eval (.tmp 175) = ov { y4 with st := 4 } (.slice (some a2) y4.p.d.length c2') := hF.2.2.2 4 175 _ rfl (hdep ⟨4, .data⟩ (by simp) rfl)
                                          have hA := hW.at (k := 0) rfl hi (.inl rfl)
                                          exact Rg.ex_call xq rfl rfl (Rg.enter (args := #[ov { y4 with st := 4 } (.slice (some a2) y4.p.d.length c2')]) rfl rfl (by simp [da0]) ESZ.out) (Calls.mono (SZ.out _) (by rintro e w2 ⟨rfl, hB⟩; exact ⟨rfl, hW.next (k := 0) rfl (by decide) hi (.inl rfl) ⟨fun _ => (hA.1 (by decide)).trans (hB.mono (hA.1 (by decide)).size), fun e => absurd e (by decide)⟩⟩))
                                        | 6, ho, hi, hdep =>
                                          cases ho
                                          have da0 : ac.eval (.tmp 172) = .int .i64 FR := hF.2.2.2 1 172 _ rfl (hdep ⟨1, .data⟩ (by simp) rfl)
                                          have da1 : ac.eval (.tmp 176) = .int .i64 (sz x) := hF.2.2.2 5 176 _ rfl (hdep ⟨5, .data⟩ (by simp) rfl)
                                          exact Ord.ex_value xq rfl rfl (Rg.bin da0 da1 rfl (by simp [go_sem, hwF])) rfl (hW.keep (by decide))
                                        | 7, ho, hi, hdep =>
                                          cases ho
                                          have da0 : ac.eval (.tmp 8) = .pointer (some ⟨b8, 0, none⟩) := hF.old 8 rfl
                                          exact Ord.ex_value xq rfl rfl (Rg.fa da0 rfl (by simp [go_sem])) rfl (hW.keep (by decide))
                                        | 8, ho, hi, hdep =>
                                          cases ho
                                          have da0 : ac.eval (.tmp 178) = .pointer (some ⟨b8, 1, none⟩) := hF.2.2.2 7 178 _ rfl (hdep ⟨7, .data⟩ (by simp) rfl)
                                          have da1 : ac.eval (.tmp 177) = .int .i64 (FR + sz x) := hF.2.2.2 6 177 _ rfl (hdep ⟨6, .data⟩ (by simp) rfl)
                                          have hA := hW.at (k := 1) rfl hi (.inr ⟨5, rfl, (hdep ⟨5, .chain⟩ (by simp) rfl)⟩)
                                          exact Rg.ex_skip xq rfl rfl (Rg.sto da0 da1 rfl (HSR.out _ (hA.1 (by decide)))) rfl (hW.next (k := 1) rfl (by decide) hi (.inr ⟨5, rfl, (hdep ⟨5, .chain⟩ (by simp) rfl)⟩) ⟨fun e => absurd e (by decide), fun _ => ⟨_, hA.1 (by decide), rfl⟩⟩)
                                      case refine_3 => exact Rg.StM.first ⟨fun _ => (Below.refl _ _).drew, fun e => absurd e (by decide)⟩
                                      case refine_2 =>
                                        intro v' w2 hW
                                        obtain ⟨X, hBX, hw2⟩ := hW.last.2 rfl
                                        have HW2 := hidden hw2
                                        clear hW hw2
                                        simp only [Ord.puts, Ord.prs]
                                        go_simp
                                        have HBX := hidden hBX
                                        clear hBX
                                        go_wp2
                                        go_roundw
                                        case rel =>
                                          refine ⟨k + 1, by simp, by omega, ?_⟩
                                          rw [HW2.out]
                                          exact ((HS.out.later HBX.out).s8 (j := 1) (u := .int .i64 (FR + sz x)) rfl).congr (HSU.out _ (by rw [← HY3.out.1, HF5.out.1])) (fun _ _ => rfl) (fun j _ => HNF1.out j) (by rw [HFS.out, HF5.out.2]) HRS.out.symm
                                        case measure => simp only [intOf]; omega
                      · obtain rfl : z = k := by omega
                        have hnl : ¬ ((z : Int) < (z : Int)) := by omega
                        have HI4 : Hid (Lp D Q w wr r v n c0 c q (up 0 (f5 nl L) (L4 tl gd L)) b8 ap cap (fun p => { ak0 p with lo := sI (loF nl L p) (L4 tl gd L) 0 }) nb z (nl) (sI (frF nl gd) (L3 tl L) z) (sI (rnF tl) L z)) := HI.out.congr (by
                            rw [up_zero, HZ.out, up_full]
                            unfold L4 L3
                            rw [← HEQ.out.2.2.2.2.2.1]
                            rw [List.mapIdx_mapIdx]
                            rfl) (fun i _ => by rw [HEQ.out.2.2.2.2.2.2.2]; rfl) (fun j hj => by rw [decide_eq_true hj, Bool.true_and]) rfl rfl
                        clear HI c2
                        obtain ⟨FR, hFR⟩ : ∃ FR, FR = sI (frF nl gd) (L3 tl L) z := ⟨_, rfl⟩
                        obtain ⟨RN, hRN⟩ : ∃ RN, RN = sI (rnF tl) L z := ⟨_, rfl⟩
                        rw [← hFR, ← hRN] at HI4
                        have HFRN := hidden (And.intro hFR hRN)
                        clear hFR hRN
                        obtain ⟨W4, hW4⟩ : ∃ W4, W4 = wr := ⟨_, rfl⟩
                        rw [← hW4] at HI4 ⊢
                        have c2 := HI4.out.rq.cell 2 rfl
                        rw [HV.out] at c2
                        clear hW4
                        go_wp2_with fail
                        clear c2
                        go_loopw [15] (fun d X => ∃ k : Nat, d = .int .i64 (k : Int) ∧ k ≤ z ∧ Hid (Lp D Q w X r v n c0 c q (up k (f5 nl L) (L4 tl gd L)) b8 ap cap (fun p => { ak0 p with lo := sI (loF nl L p) (L4 tl gd L) k }) nb z (nl) (FR) (RN))) (fun d X => z - (intOf d).toNat)
                        case atStart => exact ⟨0, rfl, Nat.zero_le _, HI4.out⟩
                        case round =>
                          obtain ⟨k, rfl, hkz, HI⟩ := hrel
                          have hwk : IntKind.i64.wrap ((k : Int) + 1) = (k : Int) + 1 := by have := HZ1.out; rw [IntKind.wrap_i64]; omega
                          have c2 := HI.out.rq.cell 2 rfl
                          rw [HV.out] at c2
                          by_cases hlt : (k : Int) < (z : Int)
                          · --B-BEGIN
                            obtain ⟨x, hx⟩ : ∃ x, L[k]? = some x := ⟨_, List.getElem?_eq_getElem (by rw [← HZ.out]; omega)⟩
                            obtain ⟨y, hyx⟩ : ∃ y, y = f4 nl gd k (f3 tl k x) := ⟨_, rfl⟩
                            have hy : (L4 tl gd L)[k]? = some y := by rw [L4_at, hx, hyx, HEQ.out.2.2.2.2.2.1]; rfl
                            have hGy : Gc K n y := by rw [hyx]; exact ((HGC.out x (List.mem_of_getElem? hx)).f3 _ _).f4 _ _ _
                            have h4l : (L4 tl gd L).length = z := by rw [L4_len, HZ.out]
                            have hlc : ∀ (j : Nat) (x' y' : Ch), L[j]? = some x' → (up k (f5 nl L) (L4 tl gd L))[j]? = some y' → y'.pa = x'.pa ∧ y'.se = x'.se := fun j x' y' h1 h2 => by
                              rw [up_at, L4_at, h1] at h2
                              simp only [Option.map_some, Option.some.injEq] at h2
                              rw [← h2]
                              split
                              · rw [(f5_fix ..).2.1, (f4_fix ..).2.1, (f3_fix ..).2.1, (f5_fix ..).2.2.1, (f4_fix ..).2.2.1, (f3_fix ..).2.2.1]; exact ⟨rfl, rfl⟩
                              · rw [(f4_fix ..).2.1, (f3_fix ..).2.1, (f4_fix ..).2.2.1, (f3_fix ..).2.2.1]; exact ⟨rfl, rfl⟩
                            obtain ⟨M, hM⟩ : ∃ M, M = up k (f5 nl L) (L4 tl gd L) := ⟨_, rfl⟩
                            have hml : M.length = z := by rw [hM, up_len, h4l]
                            have HLAT : Hid (lat nl M k y.pa y.se = lat nl L k y.pa y.se) := by
                              show _ = _
                              exact lat_congr (by rw [hml, HZ.out]) (fun j x' y' h1 h2 => hlc j x' y' h1 (by rw [← hM]; exact h2)) k y.pa y.se
                            have hx1 : M[k]? = some y := by rw [hM]; exact up_here hy
                            have hkl : k < z := by omega
                            obtain ⟨j, hj⟩ : ∃ j : Nat, y.pa = (j : Int) := ⟨y.pa.toNat, by have := hGy.pa0; omega⟩
                            have hjn : j < n := by have := hGy.pan; omega
                            obtain ⟨ak2, hak2⟩ : ∃ ak2 : Nat → Ak, ak2 = fun p => { ak0 p with lo := sI (loF nl L p) (L4 tl gd L) k } := ⟨_, rfl⟩
                            obtain ⟨LO, hLO⟩ : ∃ LO, LO = (ak2 j).lo := ⟨_, rfl⟩
                            have hLB : 0 ≤ LO ∧ LO ≤ 65536 * (k : Int) := by
                              rw [hLO, hak2]
                              show 0 ≤ sI (loF nl L (j : Int)) (L4 tl gd L) k ∧ sI (loF nl L (j : Int)) (L4 tl gd L) k ≤ 65536 * (k : Int)
                              exact sI_bound (f := loF nl L (j : Int)) (B := 65536) (by omega) (L4 tl gd L) k (fun i y' _ hy' => by
                                have hy2 : ∃ x', L[i]? = some x' ∧ sz y' = sz x' := by
                                  rw [L4_at] at hy'
                                  cases hx' : L[i]? with
                                  | none => rw [hx'] at hy'; cases hy'
                                  | some x' => rw [hx'] at hy'; cases hy'; exact ⟨x', rfl, by unfold sz; rw [(f4_fix ..).2.2.2.1, (f3_fix ..).2.2.2.1]⟩
                                obtain ⟨x', hx', e⟩ := hy2
                                have h1 := (HLK.out.2 x' (List.mem_of_getElem? hx')).1
                                unfold loF
                                split
                                · rw [e]; unfold sz; omega
                                · omega)
                            rw [← hM, ← hak2] at HI
                            have hsz : sz y ≤ 65536 := by have := hGy.d2; unfold sz; omega
                            have hs0 := sz_nn y
                            have hz1 := HZ1.out
                            have hwL : IntKind.i64.wrap (LO + sz y) = LO + sz y := by rw [IntKind.wrap_i64]; omega
                            have hmi0 := hGy.mi0
                            have hmiK := hGy.miK
                            have hK9 := HGG.out.k
                            have hwM : IntKind.i64.wrap (y.mi + 1) = y.mi + 1 := by rw [IntKind.wrap_i64]; omega
                            have HSU : Hid (∀ y', y' = f5 nl L k y → M.set k y' = up (k + 1) (f5 nl L) (L4 tl gd L)) := fun y' hy' => by rw [hM, hy']; exact up_set hy
                            have HAZ : Hid (∀ p : Nat, loF nl L p k y = 0 → ak2 p = (fun p => { ak0 p with lo := sI (loF nl L p) (L4 tl gd L) (k + 1) } : Nat → Ak) p) := fun p h => by
                              rw [hak2]
                              show ({ ak0 p with lo := _ } : Ak) = { ak0 p with lo := sI (loF nl L p) (L4 tl gd L) (k + 1) }
                              rw [sI_succ hy, h, Int.add_zero]
                            have HAJ : Hid (loF nl L j k y = sz y → ({ ak2 j with lo := LO + sz y } : Ak) = (fun p => { ak0 p with lo := sI (loF nl L p) (L4 tl gd L) (k + 1) } : Nat → Ak) j) := fun h => by
                              rw [hLO, hak2]
                              show ({ ak0 j with lo := sI (loF nl L (j : Int)) (L4 tl gd L) k + sz y } : Ak) = { ak0 j with lo := sI (loF nl L j) (L4 tl gd L) (k + 1) }
                              rw [sI_succ hy, h]
                            have HX := hidden (And.intro hx1 (And.intro hml (And.intro hkl hjn)))
                            have HJ := hidden (And.intro hj hLO)
                            obtain ⟨g, oo, cp, a1, c1, e, hp, hc, hf⟩ := HI.out.open hx1
                            rw [HV.out, hml] at e
                            cases e
                            have HMP := hidden hp
                            obtain ⟨m0, m1, m2, m3, m4, m5, m6, m7, m8, m9, m10, m11, m12, m13⟩ := hc.all14
                            clear hx hyx hy h4l hlc hM hml hx1 hkl hak2 hLO hLB hsz hs0 hz1 hmi0 hmiK hK9 hp hc hjn hj m0 m1 m2 m3 m5 m7 m8 m9 m10 m11 m12 m13
                            go_upto_region 33 with fail
                            obtain ⟨W, hW⟩ : ∃ W, W = wr := ⟨_, rfl⟩
                            rw [← hW] at HI m6 c2 hf m4 ⊢
                            have HLT : Hid (Calls Try.prog 73 #[.pointer (some ⟨r, 0, none⟩), .slice (some ⟨nb, 0, none⟩) z z, .int .i64 (k : Int)] W fun e w' => e = .returned (.bool (lat nl L k y.pa y.se)) ∧ Below W.heap.size W w') := by
                              exact HI.out.later_ HX.out.2.1 HZ1.out HX.out.1 HLAT.out
                            clear hW
                            obtain ⟨lt, hlat⟩ : ∃ lt, lt = lat nl L k y.pa y.se := ⟨_, rfl⟩
                            rw [← hlat] at HLT
                            have HLAE := hidden hlat
                            clear hlat
                            go_cut [205] from 300 (fun s wx => s = .bool (!(decide (y.st = 1) && lt)) ∧ Hid (Below W.heap.size W wx))
                            case first =>
                              clear m4 hf
                              by_cases h1 : y.st = 1
                              · have h1b : (y.st == 1) = true := by simp [h1]
                                have HD : Hid (decide (y.st = 1) = true) := decide_eq_true h1
                                rw [h1] at m6
                                clear h1 h1b
                                go_wp2_with fail
                                clear m6 c2
                                refine Calls.mono HLT.out ?_
                                rintro e X2 ⟨rfl, hB⟩
                                have HB := hidden hB
                                clear hB
                                go_wp2_with fail
                                go_meet
                                case rel => exact ⟨by rw [HD.out, Bool.true_and], HB.out⟩
                              · have h1b : (y.st == 1) = false := by simp [h1]
                                have HD : Hid (decide (y.st = 1) = false) := decide_eq_false h1
                                go_wp2_with fail
                                go_meet
                                case rel => exact ⟨by rw [HD.out]; rfl, Below.refl _ _⟩
                            case rest =>
                              obtain ⟨rfl, HB⟩ := hcut
                              have HI2 := hidden (HI.out.later HB.out)
                              clear HI HLT m6 m4 hf c2 HB
                              cases hb : (decide (y.st = 1) && lt) with
                              | false =>
                                have HN : Hid (¬ (y.st = 1 ∧ lat nl L k y.pa y.se = true)) := fun e => by
                                  rw [← HLAE.out] at e
                                  rw [decide_eq_true e.1, e.2] at hb
                                  exact absurd hb (by decide)
                                have HF5 : Hid (f5 nl L k y = y ∧ ∀ p : Nat, loF nl L p k y = 0) := ⟨by unfold f5; rw [if_neg HN.out], fun p => by unfold loF; rw [if_neg (fun e => HN.out ⟨e.1, e.2.1⟩)]⟩
                                clear hb
                                go_wp2
                                go_roundw
                                case rel => exact ⟨k + 1, by simp, by omega, HI2.out.congr (by rw [← HSU.out y HF5.out.1.symm, set_self HX.out.1]) (fun i _ => HAZ.out i (HF5.out.2 i)) (fun _ _ => rfl) rfl rfl⟩
                                case measure => simp only [intOf]; omega
                              | true =>
                                have HN : Hid (y.st = 1 ∧ lat nl L k y.pa y.se = true) := by
                                  rw [Bool.and_eq_true] at hb
                                  exact ⟨of_decide_eq_true hb.1, by rw [← HLAE.out]; exact hb.2⟩
                                clear hb
                                have hq := HI2.out.rq.cell 2 rfl
                                rw [HV.out] at hq
                                obtain ⟨g', oo', cp', a1', c1', e', hp, hcx, hf⟩ := HI2.out.open HX.out.1
                                rw [HV.out, HX.out.2.1] at e'
                                cases e'
                                obtain ⟨m0, m1, m2, m3, m4, m5, m6, m7, m8, m9, m10, m11, m12, m13⟩ := hcx.all14
                                have hfa := hf (oo + k * 14 + 4)
                                have HMP2 := hidden hp
                                clear m0 m1 m2 m3 m5 m6 m7 m8 m9 m10 m11 m12 m13
                                go_upto_region 35 with fail
                                have hs1 := HI2.out.setC (y := { y with mi := y.mi + 1 }) (cc_ := 4) (u := .int .i64 (y.mi + 1)) HMP2.out HX.out.1 (by decide) (fun _ => rfl) rfl
                                obtain ⟨WM, hWM⟩ : ∃ WM, WM = wc.setCell ⟨g, oo + k * 14 + 4, none⟩ (.int .i64 (y.mi + 1)) := ⟨_, rfl⟩
                                rw [← hWM] at hs1 ⊢
                                have HS1 := hidden hs1
                                clear hWM hs1 hfa m4 hf hp hcx hq
                                have hq := HS1.out.rq.cell 2 rfl
                                rw [HV.out] at hq
                                obtain ⟨g', oo', cp', a1', c1', e', hp, hcx, hf⟩ := HS1.out.open (set_at HX.out.1)
                                rw [HV.out, List.length_set, HX.out.2.1] at e'
                                cases e'
                                obtain ⟨m0, m1, m2, m3, m4, m5, m6, m7, m8, m9, m10, m11, m12, m13⟩ := hcx.all14
                                have hf4 := hf (oo + k * 14 + 4)
                                have hf5 := hf (oo + k * 14 + 5)
                                have hf6 := hf (oo + k * 14 + 6)
                                have HMP3 := hidden hp
                                clear hcx hp m0 m1 m2 m3 m7 m8 m9 m10 m11 m12 m13
                                cases hqu : y.qu with
                                | true =>
                                  rw [hqu] at m5
                                  have HF5 : Hid (f5 nl L k y = { y with mi := y.mi + 1 } ∧ ∀ p : Nat, loF nl L p k y = 0) :=
                                    ⟨by unfold f5; rw [if_pos HN.out, if_neg (fun e => by rw [hqu] at e; exact absurd e.2 (by decide))], fun p => by unfold loF; rw [if_neg (fun e => by rw [hqu] at e; exact absurd e.2.2.2.1 (by decide))]⟩
                                  have HFIN : Hid (Lp D Q w WM r v n c0 c q (up (k + 1) (f5 nl L) (L4 tl gd L)) b8 ap cap (fun p => { ak0 p with lo := sI (loF nl L p) (L4 tl gd L) (k + 1) }) nb z nl FR RN) := HS1.out.congr (HSU.out _ HF5.out.1.symm) (fun i _ => HAZ.out i (HF5.out.2 i)) (fun _ _ => rfl) rfl rfl
                                  clear hqu hf4 hf5 hf6 m6 hf
                                  by_cases h3 : 3 ≤ y.mi + 1
                                  · go_wp2
                                    go_roundw
                                    case rel => exact ⟨k + 1, by simp, by omega, HFIN.out⟩
                                    case measure => simp only [intOf]; omega
                                  · have h3' : ¬ (y.mi + 1 ≥ 3) := h3
                                    go_wp2
                                    go_roundw
                                    case rel => exact ⟨k + 1, by simp, by omega, HFIN.out⟩
                                    case measure => simp only [intOf]; omega
                                | false =>
                                  rw [hqu] at m5
                                  by_cases h3 : 3 ≤ y.mi + 1
                                  · have HF5 : Hid (f5 nl L k y = { y with st := 2, qu := true, mi := 0 } ∧ ∀ p : Nat, loF nl L p k y = if p = j then sz y else 0) :=
                                      ⟨by unfold f5; rw [if_pos HN.out, if_pos ⟨h3, hqu⟩], fun p => by
                                        unfold loF
                                        by_cases e : p = j
                                        · rw [if_pos ⟨HN.out.1, HN.out.2, h3, hqu, by rw [HJ.out.1, e]⟩, if_pos e]
                                        · rw [if_neg (fun h => e (by have := h.2.2.2.2; rw [HJ.out.1] at this; omega)), if_neg e]⟩
                                    clear hqu
                                    go_upto_region 37 with fail
                                    have hs2 := HS1.out.setC (y := { y with mi := y.mi + 1, st := 2 }) (cc_ := 6) (u := .int .i64 2) HMP3.out (set_at HX.out.1) (by decide) (fun _ => rfl) rfl
                                    rw [set_set] at hs2
                                    have hs3 := hs2.setC (y := { y with mi := y.mi + 1, st := 2, qu := true }) (cc_ := 5) (u := .bool true) HMP3.out (set_at HX.out.1) (by decide) (fun _ => rfl) rfl
                                    rw [set_set] at hs3
                                    have hs4 := hs3.setC (y := { y with mi := 0, st := 2, qu := true }) (cc_ := 4) (u := .int .i64 0) HMP3.out (set_at HX.out.1) (by decide) (fun _ => rfl) rfl
                                    rw [set_set] at hs4
                                    obtain ⟨WS, hWS⟩ : ∃ WS, WS = ((WM.setCell ⟨g, oo + k * 14 + 6, none⟩ (.int .i64 2)).setCell ⟨g, oo + k * 14 + 5, none⟩ (.bool true)).setCell ⟨g, oo + k * 14 + 4, none⟩ (.int .i64 0) := ⟨_, rfl⟩
                                    rw [← hWS] at hs4 ⊢
                                    have HS := hidden hs4
                                    obtain ⟨g', oo', cp', a2, c2', e', _, hc2, _⟩ := hs4.open (set_at HX.out.1)
                                    rw [HV.out] at e'
                                    simp only [List.length_set, HX.out.2.1] at e'
                                    cases e'
                                    have HLC : Hid (∀ X, Below WS.heap.size WS X → (Instr.loadAt 59 (.pointer (some ⟨g, oo + k * 14, none⟩))).run Try.prog X = .ok (ov { y with mi := 0, st := 2, qu := true } (.slice (some a2) y.p.d.length c2')) X) := fun X hX => load_cells (hc2.later hX)
                                    have HLJ : Hid (∀ X, Below WS.heap.size WS X → (Instr.loadAt 3 (.pointer (some ⟨g, oo + k * 14 + 1, none⟩))).run Try.prog X = .ok (.int .i64 (j : Int)) X) := fun X hX => by
                                      have hh := (hc2.later hX) 1 _ rfl
                                      simp only [HJ.out.1] at hh
                                      simp [go_sem, hh]
                                    have HLP : Hid (∀ X, Below WS.heap.size WS X → (Instr.loadAt 32 (.pointer (some ⟨b8, 0, none⟩))).run Try.prog X = .ok (.slice (some ⟨ap, 0, none⟩) n cap) X) := fun X hX => by
                                      have hh := (HS.out.later hX).h8.cell 0 rfl
                                      simp [go_sem, hh]
                                    have HIA : Hid (∀ X, (Instr.indexAt 32 (.slice (some ⟨ap, 0, none⟩) n cap) (.int .i64 (j : Int))).run Try.prog X = .ok (.pointer (some ⟨ap, j * 4, none⟩)) X) := fun X => by
                                      have hjn : (j : Int) < (n : Int) := by have := HX.out.2.2.2; omega
                                      simp [go_sem, hjn]
                                    have HLO : Hid (∀ X, Below WS.heap.size WS X → (Instr.loadAt 3 (.pointer (some ⟨ap, j * 4 + 3, none⟩))).run Try.prog X = .ok (.int .i64 LO) X) := fun X hX => by
                                      have hh := ((HS.out.later hX).aw.cells HX.out.2.2.2).2.2.2
                                      rw [← HJ.out.2] at hh
                                      simp [go_sem, hh]
                                    have HSR : Hid (∀ X, Below WS.heap.size WS X → (Instr.storeAt 3 (.pointer (some ⟨ap, j * 4 + 3, none⟩)) (.int .i64 (LO + sz y))).run Try.prog X = .ok () (X.setCell ⟨ap, j * 4 + 3, none⟩ (.int .i64 (LO + sz y)))) := fun X hX => by
                                      have hh := ((HS.out.later hX).aw.cells HX.out.2.2.2).2.2.2
                                      have hfr := (HS.out.later hX).aw.frozen (j * 4 + 3)
                                      simp [go_sem, hh, hfr]
                                    have SZ : Hid (∀ X, Calls Try.prog 72 #[ov { y with mi := 0, st := 2, qu := true } (.slice (some a2) y.p.d.length c2')] X fun e w' => e = .returned (.int .i64 (sz y)) ∧ Below X.heap.size X w') := fun X => r_size { y with mi := 0, st := 2, qu := true } (u := .slice (some a2) y.p.d.length c2') ⟨_, _, rfl⟩ X
                                    have ESZ : Hid (∀ (args : Array Value) (w : World), (callFunc 72 args).run Try.prog w = .ok (.enter 72 args) w) := enters_of Try.func72 (by kernel_rfl) rfl
                                    clear hs2 hs3 hs4 hWS hc2 m4 m5 m6 hf4 hf5 hf6 hf hq h3
                                    refine Ord.wp_region_ex0 (X := Unit) (by kernel_rfl) 280 (fun xq => [(some 234, .pointer (some ⟨b8, 0, none⟩)), (some 235, .slice (some ⟨ap, 0, none⟩) n cap), (some 236, .pointer (some ⟨g, oo + k * 14, none⟩)), (some 237, .pointer (some ⟨g, oo + k * 14, none⟩)), (some 238, .pointer (some ⟨g, oo + k * 14 + 1, none⟩)), (some 239, .int .i64 (j : Int)), (some 240, .pointer (some ⟨b8, 0, none⟩)), (some 241, .slice (some ⟨ap, 0, none⟩) n cap), (some 242, .pointer (some ⟨g, oo + k * 14, none⟩)), (some 243, .pointer (some ⟨g, oo + k * 14, none⟩)), (some 244, .pointer (some ⟨g, oo + k * 14 + 1, none⟩)), (some 245, .int .i64 (j : Int)), (some 246, .pointer (some ⟨ap, j * 4, none⟩)), (some 247, .pointer (some ⟨ap, j * 4 + 3, none⟩)), (some 248, .int .i64 LO), (some 249, .pointer (some ⟨g, oo + k * 14, none⟩)), (some 250, .pointer (some ⟨g, oo + k * 14, none⟩)), (some 251, ov { y with mi := 0, st := 2, qu := true } (.slice (some a2) y.p.d.length c2')), (some 252, .int .i64 (sz y)), (some 253, .int .i64 (LO + sz y)), (some 254, .pointer (some ⟨ap, j * 4, none⟩)), (some 255, .pointer (some ⟨ap, j * 4 + 3, none⟩)), (none, undef)]) [some 234, some 235, some 236, some 237, some 238, some 239, some 240, some 241, some 242, some 243, some 244, some 245, some 246, some 247, some 248, some 249, some 250, some 251, some 252, some 253, some 254, some 255, none] rfl (fun listed hsz hr => Ord.all_listedC (rank := [0, 1, 2, 3, 4, 5, 6, 7, 8, 9, 10, 11, 12, 13, 14, 15, 16, 17, 18, 19, 20, 21, 22]) (by kernel_rfl) hsz hr) (by rfl) (fun _ => rfl) (by kernel_rfl) (Rg.StM [18, 22] (fun sk sx w' => (sk ≤ 1 → Below WS.heap.size WS w') ∧ (sk = 2 → ∃ X, Below WS.heap.size WS X ∧ w' = X.setCell ⟨ap, j * 4 + 3, none⟩ (.int .i64 (LO + sz y))))) (fun _ _ _ _ hL h => h.ext (n := 23) (by decide) hL) ?_ ?_ () ?_
                                    case refine_1 =>
                                      intro xq Lq iq oq ac w' ho hi hcl hdep hF hW
                                      have f1 : ac.tmps.size = 280 := hF.1
                                      match iq, ho, hi, hdep with
                                      | 0, ho, hi, hdep =>
                                        cases ho
                                        have da0 : ac.eval (.tmp 8) = .pointer (some ⟨b8, 0, none⟩) := hF.old 8 rfl
                                        exact Ord.ex_value xq rfl rfl (Rg.fa da0 rfl (by simp [go_sem])) rfl (hW.keep (by decide))
                                      | 1, ho, hi, hdep =>
                                        cases ho
                                        have da0 : ac.eval (.tmp 234) = .pointer (some ⟨b8, 0, none⟩) := hF.2.2.2 0 234 _ rfl (hdep ⟨0, .data⟩ (by simp) rfl)
                                        obtain ⟨kq, hlo, hhi, hA⟩ := hW.range 0 1 (.inl rfl) (.inr ⟨22, rfl, (Rg.no_of (fun h => hcl 22 _ rfl (h) ⟨1, .phase⟩ (by simp) rfl) hi)⟩)
                                        exact Ord.ex_value xq rfl rfl (Rg.load da0 rfl (HLP.out _ (hA.1 (by omega)))) rfl (hW.keep (by decide))
                                      | 2, ho, hi, hdep =>
                                        cases ho
                                        have da0 : ac.eval (.tmp 16) = .pointer (some ⟨g, oo + k * 14, none⟩) := hF.old 16 rfl
                                        exact Ord.ex_value xq rfl rfl (Rg.mv da0 rfl) rfl (hW.keep (by decide))
                                      | 3, ho, hi, hdep =>
                                        cases ho
                                        have da0 : ac.eval (.tmp 236) = .pointer (some ⟨g, oo + k * 14, none⟩) := hF.2.2.2 2 236 _ rfl (hdep ⟨2, .data⟩ (by simp) rfl)
                                        exact Ord.ex_value xq rfl rfl (Rg.nilc da0 rfl) rfl (hW.keep (by decide))
                                      | 4, ho, hi, hdep =>
                                        cases ho
                                        have da0 : ac.eval (.tmp 237) = .pointer (some ⟨g, oo + k * 14, none⟩) := hF.2.2.2 3 237 _ rfl (hdep ⟨3, .data⟩ (by simp) rfl)
                                        exact Ord.ex_value xq rfl rfl (Rg.fa da0 rfl (by simp [go_sem])) rfl (hW.keep (by decide))
                                      | 5, ho, hi, hdep =>
                                        cases ho
                                        have da0 : ac.eval (.tmp 238) = .pointer (some ⟨g, oo + k * 14 + 1, none⟩) := hF.2.2.2 4 238 _ rfl (hdep ⟨4, .data⟩ (by simp) rfl)
                                        obtain ⟨kq, hlo, hhi, hA⟩ := hW.range 0 1 (.inl rfl) (.inr ⟨22, rfl, (Rg.no_of (fun h => hcl 22 _ rfl (h) ⟨5, .phase⟩ (by simp) rfl) hi)⟩)
                                        exact Ord.ex_value xq rfl rfl (Rg.load da0 rfl (HLJ.out _ (hA.1 (by omega)))) rfl (hW.keep (by decide))
                                      | 6, ho, hi, hdep =>
                                        cases ho
                                        have da0 : ac.eval (.tmp 8) = .pointer (some ⟨b8, 0, none⟩) := hF.old 8 rfl
                                        exact Ord.ex_value xq rfl rfl (Rg.fa da0 rfl (by simp [go_sem])) rfl (hW.keep (by decide))
                                      | 7, ho, hi, hdep =>
                                        cases ho
                                        have da0 : ac.eval (.tmp 240) = .pointer (some ⟨b8, 0, none⟩) := hF.2.2.2 6 240 _ rfl (hdep ⟨6, .data⟩ (by simp) rfl)
                                        obtain ⟨kq, hlo, hhi, hA⟩ := hW.range 0 1 (.inl rfl) (.inr ⟨22, rfl, (Rg.no_of (fun h => hcl 22 _ rfl (h) ⟨7, .phase⟩ (by simp) rfl) hi)⟩)
                                        exact Ord.ex_value xq rfl rfl (Rg.load da0 rfl (HLP.out _ (hA.1 (by omega)))) rfl (hW.keep (by decide))
                                      | 8, ho, hi, hdep =>
                                        cases ho
                                        have da0 : ac.eval (.tmp 16) = .pointer (some ⟨g, oo + k * 14, none⟩) := hF.old 16 rfl
                                        exact Ord.ex_value xq rfl rfl (Rg.mv da0 rfl) rfl (hW.keep (by decide))
                                      | 9, ho, hi, hdep =>
                                        cases ho
                                        have da0 : ac.eval (.tmp 242) = .pointer (some ⟨g, oo + k * 14, none⟩) := hF.2.2.2 8 242 _ rfl (hdep ⟨8, .data⟩ (by simp) rfl)
                                        exact Ord.ex_value xq rfl rfl (Rg.nilc da0 rfl) rfl (hW.keep (by decide))
                                      | 10, ho, hi, hdep =>
                                        cases ho
                                        have da0 : ac.eval (.tmp 243) = .pointer (some ⟨g, oo + k * 14, none⟩) := hF.2.2.2 9 243 _ rfl (hdep ⟨9, .data⟩ (by simp) rfl)
                                        exact Ord.ex_value xq rfl rfl (Rg.fa da0 rfl (by simp [go_sem])) rfl (hW.keep (by decide))
                                      | 11, ho, hi, hdep =>
                                        cases ho
                                        have da0 : ac.eval (.tmp 244) = .pointer (some ⟨g, oo + k * 14 + 1, none⟩) := hF.2.2.2 10 244 _ rfl (hdep ⟨10, .data⟩ (by simp) rfl)
                                        obtain ⟨kq, hlo, hhi, hA⟩ := hW.range 0 1 (.inl rfl) (.inr ⟨22, rfl, (Rg.no_of (fun h => hcl 22 _ rfl (h) ⟨11, .phase⟩ (by simp) rfl) hi)⟩)
                                        exact Ord.ex_value xq rfl rfl (Rg.load da0 rfl (HLJ.out _ (hA.1 (by omega)))) rfl (hW.keep (by decide))
                                      | 12, ho, hi, hdep =>
                                        cases ho
                                        have da0 : ac.eval (.tmp 241) = .slice (some ⟨ap, 0, none⟩) n cap := hF.2.2.2 7 241 _ rfl (hdep ⟨7, .data⟩ (by simp) rfl)
                                        have da1 : ac.eval (.tmp 245) = .int .i64 (j : Int) := hF.2.2.2 11 245 _ rfl (hdep ⟨11, .data⟩ (by simp) rfl)
                                        exact Ord.ex_value xq rfl rfl (Rg.ix da0 da1 rfl (HIA.out _)) rfl (hW.keep (by decide))
                                      | 13, ho, hi, hdep =>
                                        cases ho
                                        have da0 : ac.eval (.tmp 246) = .pointer (some ⟨ap, j * 4, none⟩) := hF.2.2.2 12 246 _ rfl (hdep ⟨12, .data⟩ (by simp) rfl)
                                        exact Ord.ex_value xq rfl rfl (Rg.fa da0 rfl (by simp [go_sem])) rfl (hW.keep (by decide))
                                      | 14, ho, hi, hdep =>
                                        cases ho
                                        have da0 : ac.eval (.tmp 247) = .pointer (some ⟨ap, j * 4 + 3, none⟩) := hF.2.2.2 13 247 _ rfl (hdep ⟨13, .data⟩ (by simp) rfl)
                                        obtain ⟨kq, hlo, hhi, hA⟩ := hW.range 0 1 (.inl rfl) (.inr ⟨22, rfl, (Rg.no_of (fun h => hcl 22 _ rfl (h) ⟨14, .phase⟩ (by simp) rfl) hi)⟩)
                                        exact Ord.ex_value xq rfl rfl (Rg.load da0 rfl (HLO.out _ (hA.1 (by omega)))) rfl (hW.keep (by decide))
                                      | 15, ho, hi, hdep =>
                                        cases ho
                                        have da0 : ac.eval (.tmp 16) = .pointer (some ⟨g, oo + k * 14, none⟩) := hF.old 16 rfl
                                        exact Ord.ex_value xq rfl rfl (Rg.mv da0 rfl) rfl (hW.keep (by decide))
                                      | 16, ho, hi, hdep =>
                                        cases ho
                                        have da0 : ac.eval (.tmp 249) = .pointer (some ⟨g, oo + k * 14, none⟩) := hF.2.2.2 15 249 _ rfl (hdep ⟨15, .data⟩ (by simp) rfl)
                                        exact Ord.ex_value xq rfl rfl (Rg.nilc da0 rfl) rfl (hW.keep (by decide))
                                      | 17, ho, hi, hdep =>
                                        cases ho
                                        have da0 : ac.eval (.tmp 250) = .pointer (some ⟨g, oo + k * 14, none⟩) := hF.2.2.2 16 250 _ rfl (hdep ⟨16, .data⟩ (by simp) rfl)
                                        obtain ⟨kq, hlo, hhi, hA⟩ := hW.range 0 0 (.inl rfl) (.inr ⟨18, rfl, (Rg.no_of (fun h => hcl 18 _ rfl (h) ⟨17, .data⟩ (by simp) rfl) hi)⟩)
                                        exact Ord.ex_value xq rfl rfl (Rg.load da0 rfl (HLC.out _ (hA.1 (by omega)))) rfl (hW.keep (by decide))
                                      | 18, ho, hi, hdep =>
                                        cases ho
                                        have da0 : ac.eval (.tmp 251) = ov { y with mi := 0, st := 2, qu := true } (.slice (some a2) y.p.d.length c2') := hF.2.2.2 17 251 _ rfl (hdep ⟨17, .data⟩ (by simp) rfl)
                                        have hA := hW.at (k := 0) rfl hi (.inl rfl)
                                        exact Rg.ex_call xq rfl rfl (Rg.enter (args := #[ov { y with mi := 0, st := 2, qu := true } (.slice (some a2) y.p.d.length c2')]) rfl rfl (by simp [da0]) ESZ.out) (Calls.mono (SZ.out _) (by rintro e w2 ⟨rfl, hB⟩; exact ⟨rfl, hW.next (k := 0) rfl (by decide) hi (.inl rfl) ⟨fun _ => (hA.1 (by decide)).trans (hB.mono (hA.1 (by decide)).size), fun e => absurd e (by decide)⟩⟩))
                                      | 19, ho, hi, hdep =>
                                        cases ho
                                        have da0 : ac.eval (.tmp 248) = .int .i64 LO := hF.2.2.2 14 248 _ rfl (hdep ⟨14, .data⟩ (by simp) rfl)
                                        have da1 : ac.eval (.tmp 252) = .int .i64 (sz y) := hF.2.2.2 18 252 _ rfl (hdep ⟨18, .data⟩ (by simp) rfl)
                                        exact Ord.ex_value xq rfl rfl (Rg.bin da0 da1 rfl (by simp [go_sem, hwL])) rfl (hW.keep (by decide))
                                      | 20, ho, hi, hdep =>
                                        cases ho
                                        have da0 : ac.eval (.tmp 235) = .slice (some ⟨ap, 0, none⟩) n cap := hF.2.2.2 1 235 _ rfl (hdep ⟨1, .data⟩ (by simp) rfl)
                                        have da1 : ac.eval (.tmp 239) = .int .i64 (j : Int) := hF.2.2.2 5 239 _ rfl (hdep ⟨5, .data⟩ (by simp) rfl)
                                        exact Ord.ex_value xq rfl rfl (Rg.ix da0 da1 rfl (HIA.out _)) rfl (hW.keep (by decide))
                                      | 21, ho, hi, hdep =>
                                        cases ho
                                        have da0 : ac.eval (.tmp 254) = .pointer (some ⟨ap, j * 4, none⟩) := hF.2.2.2 20 254 _ rfl (hdep ⟨20, .data⟩ (by simp) rfl)
                                        exact Ord.ex_value xq rfl rfl (Rg.fa da0 rfl (by simp [go_sem])) rfl (hW.keep (by decide))
                                      | 22, ho, hi, hdep =>
                                        cases ho
                                        have da0 : ac.eval (.tmp 255) = .pointer (some ⟨ap, j * 4 + 3, none⟩) := hF.2.2.2 21 255 _ rfl (hdep ⟨21, .data⟩ (by simp) rfl)
                                        have da1 : ac.eval (.tmp 253) = .int .i64 (LO + sz y) := hF.2.2.2 19 253 _ rfl (hdep ⟨19, .data⟩ (by simp) rfl)
                                        have hA := hW.at (k := 1) rfl hi (.inr ⟨18, rfl, (hdep ⟨18, .chain⟩ (by simp) rfl)⟩)
                                        exact Rg.ex_skip xq rfl rfl (Rg.sto da0 da1 rfl (HSR.out _ (hA.1 (by decide)))) rfl (hW.next (k := 1) rfl (by decide) hi (.inr ⟨18, rfl, (hdep ⟨18, .chain⟩ (by simp) rfl)⟩) ⟨fun e => absurd e (by decide), fun _ => ⟨_, hA.1 (by decide), rfl⟩⟩)
                                    case refine_3 => exact Rg.StM.first ⟨fun _ => (Below.refl _ _).drew, fun e => absurd e (by decide)⟩
                                    case refine_2 =>
                                      intro v' w2 hW
                                      obtain ⟨X, hBX, hw2⟩ := hW.last.2 rfl
                                      have HW2 := hidden hw2
                                      clear hW hw2
                                      simp only [Ord.puts, Ord.prs]
                                      go_simp
                                      have HBX := hidden hBX
                                      clear hBX
                                      go_wp2
                                      go_roundw
                                      case rel =>
                                        refine ⟨k + 1, by simp, by omega, ?_⟩
                                        rw [HW2.out]
                                        refine ((HS.out.later HBX.out).sA HX.out.2.2.2 (LO + sz y)).congr (HSU.out _ HF5.out.1.symm) (fun i _ => ?_) (fun _ _ => rfl) rfl rfl
                                        by_cases e : i = j
                                        · subst e
                                          simp only [if_true]
                                          exact HAJ.out (by rw [HF5.out.2 i, if_pos rfl])
                                        · simp only [if_neg e]
                                          exact HAZ.out i (by rw [HF5.out.2 i, if_neg e])
                                      case measure => simp only [intOf]; omega
                                  · --AUX
                                    have h3' : ¬ (y.mi + 1 ≥ 3) := h3
                                    have HF5 : Hid (f5 nl L k y = { y with mi := y.mi + 1 } ∧ ∀ p : Nat, loF nl L p k y = 0) :=
                                      ⟨by unfold f5; rw [if_pos HN.out, if_neg (fun e => h3 e.1)], fun p => by unfold loF; rw [if_neg (fun e => h3 e.2.2.1)]⟩
                                    have HFIN : Hid (Lp D Q w WM r v n c0 c q (up (k + 1) (f5 nl L) (L4 tl gd L)) b8 ap cap (fun p => { ak0 p with lo := sI (loF nl L p) (L4 tl gd L) (k + 1) }) nb z nl FR RN) := HS1.out.congr (HSU.out _ HF5.out.1.symm) (fun i _ => HAZ.out i (HF5.out.2 i)) (fun _ _ => rfl) rfl rfl
                                    clear hqu hf4 hf5 hf6 m6 hf m5
                                    go_wp2
                                    go_roundw
                                    case rel => exact ⟨k + 1, by simp, by omega, HFIN.out⟩
                                    case measure => simp only [intOf]; omega
                          · obtain rfl : z = k := by omega
                            have hnl : ¬ ((z : Int) < (z : Int)) := by omega
                            obtain ⟨W5, hW5⟩ : ∃ W5, W5 = wr := ⟨_, rfl⟩
                            rw [← hW5] at HI c2 ⊢
                            have HI5 : Hid (Lp D Q w W5 r v n c0 c q (L5 tl gd L) b8 ap cap (fun p => { ak0 p with lo := sI (loF nl L p) (L4 tl gd L) z }) nb z (nl) (FR) (RN)) := HI.out.congr (by
                              rw [show z = (L4 tl gd L).length by rw [L4_len, HZ.out], up_full]
                              unfold L5
                              rw [← HEQ.out.2.2.2.2.2.1]) (fun _ _ => rfl) (fun _ _ => rfl) rfl rfl
                            clear HI hW5
                            have HC2 : Hid (∀ X, Below W5.heap.size W5 X → (Instr.loadAt 22 (.pointer (some ⟨w.heap.size, 2, none⟩))).run Try.prog X = .ok (.int .u32 q.tsn) X) := fun X hX => by
                              have := (HI5.out.hc.later hX).cell 2 (v := .int .u32 c.tsn) rfl
                              rw [HTS.out] at this
                              simp [go_sem, this]
                            have HRC : Hid (∀ X, Below W5.heap.size W5 X → (Instr.loadAt 22 (.pointer (some ⟨r, 1, none⟩))).run Try.prog X = .ok (.int .u32 c0) X) := fun X hX => by
                              have := (HI5.out.later hX).rq.cell 1 rfl
                              simp [go_sem, this]
                            have HDI : Hid (∀ X, Below W5.heap.size W5 X → Calls Try.prog 74 #[.int .u32 c0, .int .u32 q.tsn] X fun e w2 => e = .returned (.int .i64 (u : Int)) ∧ X = w2) := fun X _ => by
                              have := Ser.rdiff c0 q.tsn HC0.out HQT.out X
                              rw [HDF.out] at this
                              exact this
                            have EDI : Hid (∀ (args : Array Value) (w : World), (callFunc 74 args).run Try.prog w = .ok (.enter 74 args) w) := enters_of Try.func74 (by kernel_rfl) rfl
                            go_upto_region 38 with fail
                            refine Ord.wp_region_ex0 (X := Unit) (by kernel_rfl) 280 (fun xq => [(some 256, .pointer (some ⟨r, 0, none⟩)), (some 257, .pointer (some ⟨r, 0, none⟩)), (some 258, .pointer (some ⟨r, 1, none⟩)), (some 259, .int .u32 c0), (some 260, .pointer (some ⟨w.heap.size, 2, none⟩)), (some 261, .int .u32 q.tsn), (some 262, .int .i64 (u : Int)), (some 17, .int .i64 (u : Int))]) [some 256, some 257, some 258, some 259, some 260, some 261, some 262, some 17] rfl (fun listed hsz hr => Ord.all_listedC (rank := [0, 1, 2, 3, 4, 5, 6, 7]) (by kernel_rfl) hsz hr) (by rfl) (fun _ => rfl) (by kernel_rfl) (Rg.StM [] (fun sk sx w' => Below W5.heap.size W5 w')) (fun _ _ _ _ hL h => h.ext (n := 8) (by decide) hL) ?_ ?_ () ?_
                            case refine_1 =>
                              intro xq Lq iq oq ac w' ho hi hcl hdep hF hW
                              have f1 : ac.tmps.size = 280 := hF.1
                              match iq, ho, hi, hdep with
                              | 0, ho, hi, hdep =>
                                cases ho
                                have da0 : ac.eval (.tmp 0) = .pointer (some ⟨r, 0, none⟩) := hF.old 0 rfl
                                exact Ord.ex_value xq rfl rfl (Rg.mv da0 rfl) rfl (hW.keep (by decide))
                              | 1, ho, hi, hdep =>
                                cases ho
                                have da0 : ac.eval (.tmp 256) = .pointer (some ⟨r, 0, none⟩) := hF.2.2.2 0 256 _ rfl (hdep ⟨0, .data⟩ (by simp) rfl)
                                exact Ord.ex_value xq rfl rfl (Rg.nilc da0 rfl) rfl (hW.keep (by decide))
                              | 2, ho, hi, hdep =>
                                cases ho
                                have da0 : ac.eval (.tmp 257) = .pointer (some ⟨r, 0, none⟩) := hF.2.2.2 1 257 _ rfl (hdep ⟨1, .data⟩ (by simp) rfl)
                                exact Ord.ex_value xq rfl rfl (Rg.fa da0 rfl (by simp [go_sem])) rfl (hW.keep (by decide))
                              | 3, ho, hi, hdep =>
                                cases ho
                                have da0 : ac.eval (.tmp 258) = .pointer (some ⟨r, 1, none⟩) := hF.2.2.2 2 258 _ rfl (hdep ⟨2, .data⟩ (by simp) rfl)
                                exact Ord.ex_value xq rfl rfl (Rg.load da0 rfl (HRC.out _ hW.only)) rfl (hW.keep (by decide))
                              | 4, ho, hi, hdep =>
                                cases ho
                                have da0 : ac.eval (.tmp 4) = .pointer (some ⟨w.heap.size, 0, none⟩) := hF.old 4 rfl
                                exact Ord.ex_value xq rfl rfl (Rg.fa da0 rfl (by simp [go_sem])) rfl (hW.keep (by decide))
                              | 5, ho, hi, hdep =>
                                cases ho
                                have da0 : ac.eval (.tmp 260) = .pointer (some ⟨w.heap.size, 2, none⟩) := hF.2.2.2 4 260 _ rfl (hdep ⟨4, .data⟩ (by simp) rfl)
                                exact Ord.ex_value xq rfl rfl (Rg.load da0 rfl (HC2.out _ hW.only)) rfl (hW.keep (by decide))
                              | 6, ho, hi, hdep =>
                                cases ho
                                have da0 : ac.eval (.tmp 259) = .int .u32 c0 := hF.2.2.2 3 259 _ rfl (hdep ⟨3, .data⟩ (by simp) rfl)
                                have da1 : ac.eval (.tmp 261) = .int .u32 q.tsn := hF.2.2.2 5 261 _ rfl (hdep ⟨5, .data⟩ (by simp) rfl)
                                obtain ⟨kq, hlo, hhi, hA⟩ := hW.range 0 0 (.inl rfl) (.inl rfl)
                                have hA := hW.only
                                exact Rg.ex_call xq rfl rfl (Rg.enter (args := #[.int .u32 c0, .int .u32 q.tsn]) rfl rfl (by simp [da0, da1]) EDI.out) (Calls.mono (HDI.out _ hA) (by rintro e w2 ⟨rfl, rfl⟩; exact ⟨rfl, Rg.StM.nil (hA)⟩))
                              | 7, ho, hi, hdep =>
                                cases ho
                                have da0 : ac.eval (.tmp 262) = .int .i64 (u : Int) := hF.2.2.2 6 262 _ rfl (hdep ⟨6, .data⟩ (by simp) rfl)
                                exact Ord.ex_value xq rfl rfl (Rg.asg da0 rfl) rfl (hW.keep (by decide))
                            case refine_3 => exact Rg.StM.first (Below.refl _ _).drew
                            case refine_2 =>
                              intro xu X6 hW
                              have hA := hW.last
                              clear hW
                              simp only [Ord.puts, Ord.prs]
                              go_simp
                              have HI6 := hidden (HI5.out.later hA)
                              clear HI5 HC2 HRC HDI EDI hA c2
                              have HPOST : Hid (∀ (W' : World) (v' : Value) (Pn : List CV), Ro D W' r v' Pn n q.tsn ((L5 tl gd L).drop u) → (∀ k, v'.ownBlock = some k → w.heap.size ≤ k) → Mod (FD r v) w W' → Aw W' ap n (fun p => { ak0 p with lo := sI (loF nl L p) (L4 tl gd L) z }) → RrO D w W' r v S q now (.returned (.tuple #[.agg #[.slice (some ⟨ap, 0, none⟩) n cap, .int .i64 FR, .int .i64 RN], .int .i64 0]))) := fun W' v' Pn h1 h2 h3 h4 => by
                                obtain ⟨e1, e2, e3, e4, e5, e6, e7, e8⟩ := HEQ.out
                                refine .inr ⟨HE.out, ap, cap, by rw [← e1]; exact HCAP.out, ?_, HAP.out, ?_, ⟨v', Pn, ?_, h2⟩, h3⟩
                                · rw [← e1, ← e3, ← e4, ← e5]
                                  unfold frV rnV
                                  rw [← e6, ← HZ.out, HFRN.out.1, HFRN.out.2]
                                · rw [← e1]
                                  refine h4.congr (fun i _ => ?_)
                                  rw [← e3, ← e4, ← e5]
                                  unfold akV
                                  rw [← e6, e8, HZ.out]
                                · rw [← e1]
                                  show Ro D W' r v' Pn n q.tsn (List.drop (upS S q) (L5 (tlS S q) (gdS S q) S.L))
                                  rw [← e3, ← e4, ← e5, ← e7]
                                  exact h1
                              obtain ⟨P', hP'⟩ := HI6.out.ro
                              have HP6 := hidden hP'
                              have hrl : r < X6.heap.size := HI6.out.rq.lt
                              have hPl : P'.length = z := by rw [hP'.len, L5_len, HZ.out]
                              have hul : u ≤ z := by have := HUP.out; rw [HZ.out]; exact this
                              have HONE : Hid (∀ p ∈ P', p.v.oneCell' = true) := fun p hp => by
                                obtain ⟨_, _, _, e, _⟩ := (hP'.by_ p hp).row
                                rw [e]; rfl
                              have c2 := HI6.out.rq.cell 2 rfl
                              have hrf := HI6.out.rq.frozen
                              have HFIN : Hid (∀ (W7 W8 W9 W10 : World) (v' : Value), Below X6.heap.size X6 W7 → Rw 59 W7 v' (P'.drop u) → (∀ k, v'.ownBlock = some k → w.heap.size ≤ k) → W8 = W7.setCell ⟨r, 2, none⟩ v' → W9 = W8.setCell ⟨r, 1, none⟩ (.int .u32 q.tsn) → W10 = ((W9.setCell ⟨w.heap.size + 1, 0, none⟩ (.slice (some ⟨ap, 0, none⟩) n cap)).setCell ⟨w.heap.size + 1, 1, none⟩ (.int .i64 FR)).setCell ⟨w.heap.size + 1, 2, none⟩ (.int .i64 RN) →
                                  RrO D w W10 r v S q now (.returned (.tuple #[.agg #[.slice (some ⟨ap, 0, none⟩) n cap, .int .i64 FR, .int .i64 RN], .int .i64 0])) ∧ Has W10 (w.heap.size + 1) #[.slice (some ⟨ap, 0, none⟩) n cap, .int .i64 FR, .int .i64 RN] 34) := fun W7 W8 W9 W10 v' hB7 hr7 ho7 h8 h9 h10 => by
                                have hI7 := HI6.out.later hB7
                                have hm9 : Mod (fun k => k = r) W7 W9 := by rw [h9, h8]; exact ((Mod.refl (fun k => k = r) W7).set (p := ⟨r, 2, none⟩) rfl _).set (p := ⟨r, 1, none⟩) rfl _
                                have hq9 : Has W9 r #[.int .i64 (n : Int), .int .u32 q.tsn, v'] 91 := by rw [h9, h8]; exact (hI7.rq.set 2 v').set 1 (.int .u32 q.tsn)
                                have hrw : r < w.heap.size := HFC.out r (.inl rfl)
                                have hz9 := hm9.has hI7.hz (fun e => by omega)
                                obtain ⟨y1, y2⟩ := set3 (v0 := .slice (some ⟨ap, 0, none⟩) n cap) (v1 := .int .i64 FR) (v2 := .int .i64 RN) hz9
                                rw [← h10] at y1 y2
                                have hro9 : Ro D W9 r v' (P'.drop u) n q.tsn ((L5 tl gd L).drop u) := ⟨hq9, hr7.stay hm9 (fun k hk e => by obtain ⟨cu, hh⟩ := hr7.obj hk; subst e; exact hh.ne hI7.rq (by decide) rfl), by rw [List.map_drop, HP6.out.pr], fun p hp => ((HP6.out.later hB7).by_ p (List.mem_of_mem_drop hp)).stay hm9 (fun k cur _ hh e => by subst e; exact hh.ne hI7.rq (by decide) rfl)⟩
                                refine ⟨HPOST.out W10 v' (P'.drop u) (hro9.stay y2 (fun k hk e => ?_) (fun k cur _ hh e => by subst e; exact hh.ne hz9 (by decide) rfl)) ho7 ((hI7.md.trans hm9 (fun k hk => .inl (.inl hk))).trans y2 (fun k hk => .inr (by omega))) ((hI7.aw.stay hm9 (fun e => by have := hI7.la; omega)).stay y2 (fun e => ?_)), y1⟩
                                · rcases hk with rfl | hk
                                  · omega
                                  · subst e
                                    obtain ⟨cu, hh⟩ := hro9.rw_.obj hk
                                    exact hh.ne hz9 (by decide) rfl
                                · obtain ⟨cu, hh⟩ := (hI7.aw.stay hm9 (fun e => by have := hI7.la; omega)).type
                                  subst e
                                  exact hh.ne hz9 (by decide) rfl
                              have HSTEP : Hid (∀ W7 v', Below X6.heap.size X6 W7 → (W7.setCell ⟨r, 2, none⟩ v').cell? ⟨w.heap.size, 2, none⟩ = some (.int .u32 q.tsn) ∧ (W7.setCell ⟨r, 2, none⟩ v').cell? ⟨r, 1, none⟩ = some (.int .u32 c0) ∧ (∀ j, (W7.setCell ⟨r, 2, none⟩ v').frozen? ⟨r, j, none⟩ = false) ∧ W7.cell? ⟨r, 2, none⟩ = some v ∧ ∀ j, W7.frozen? ⟨r, j, none⟩ = false) := fun W7 v' hB7 => by
                                have hI7 := HI6.out.later hB7
                                have hm8 : Mod (fun k => k = r) W7 (W7.setCell ⟨r, 2, none⟩ v') := (Mod.refl (fun k => k = r) W7).set (p := ⟨r, 2, none⟩) rfl _
                                have hrw : r < w.heap.size := HFC.out r (.inl rfl)
                                have h1 := (hm8.has hI7.hc (fun e => by omega)).cell 2 (v := .int .u32 c.tsn) rfl
                                rw [HTS.out] at h1
                                have h2 := hI7.rq.set 2 v'
                                exact ⟨h1, h2.cell 1 rfl, h2.frozen, hI7.rq.cell 2 rfl, hI7.rq.frozen⟩
                              have HSTEP2 : Hid (∀ W7 W8 W9 v', Below X6.heap.size X6 W7 → W8 = W7.setCell ⟨r, 2, none⟩ v' → W9 = W8.setCell ⟨r, 1, none⟩ (.int .u32 q.tsn) → Has W9 b8 #[.slice (some ⟨ap, 0, none⟩) n cap, .int .i64 FR, .int .i64 RN] 34 ∧ Has W9 (w.heap.size + 1) #[.slice none 0 0, .int .i64 0, .int .i64 0] 34) := fun W7 W8 W9 v' hB7 h8 h9 => by
                                have hI7 := HI6.out.later hB7
                                have hm9 : Mod (fun k => k = r) W7 W9 := by rw [h9, h8]; exact ((Mod.refl (fun k => k = r) W7).set (p := ⟨r, 2, none⟩) rfl _).set (p := ⟨r, 1, none⟩) rfl _
                                have hrw : r < w.heap.size := HFC.out r (.inl rfl)
                                have := hI7.l8
                                exact ⟨hm9.has hI7.h8 (fun e => by omega), hm9.has hI7.hz (fun e => by omega)⟩
                              clear HPOST
                              rcases hP'.rw_ with ⟨hv0, hps⟩ | ⟨g, oo, cp, cur, hv1, hcur, hcp, hcs, hcm, hcc⟩
                              · --AUX
                                have hz0 : z = 0 := by rw [← hPl, hps]; rfl
                                have hu0 : u = 0 := by omega
                                obtain ⟨W7, hW7⟩ : ∃ W7, W7 = X6.alloc (.cells #[] 59) := ⟨_, rfl⟩
                                have HB7 : Hid (Below X6.heap.size X6 W7) := by rw [hW7]; exact (Below.refl _ _).alloc (Nat.le_refl _) _
                                have HRW : Hid (Rw 59 W7 (.slice (some ⟨X6.heap.size, 0, none⟩) 0 0) (P'.drop u)) := by rw [hps, List.drop_nil, hW7]; exact lit_row
                                have HOB : Hid (∀ k, (Value.slice (some ⟨X6.heap.size, 0, none⟩) 0 0).ownBlock = some k → w.heap.size ≤ k) := fun k hk => by cases hk; exact HI6.out.md.size
                                have HRUN : Hid ((Builtin.append_ #[55, 55] 55 #[.slice (some ⟨X6.heap.size, 0, none⟩) 0 0, .slice none 0 0]).run Try.prog (X6.alloc (.cells #[] 59)) = .ok (.slice (some ⟨X6.heap.size, 0, none⟩) 0 0) W7) := by rw [hW7]; exact drop_none 55
                                rw [hv0] at c2
                                rw [hu0]
                                clear hW7 hps hP' hPl hul hz0 hu0
                                obtain ⟨k1, k2, k3, k4, k5⟩ := HSTEP.out W7 (.slice (some ⟨X6.heap.size, 0, none⟩) 0 0) HB7.out
                                rw [hv0] at k4
                                go_upto_region 40 with (at_builtin; refine Rg.wpList_app rfl _ _ _ rfl rfl rfl HRUN.out ?_; clear HRUN)
                                obtain ⟨W8, hW8⟩ : ∃ W8, W8 = W7.setCell ⟨r, 2, none⟩ (.slice (some ⟨X6.heap.size, 0, none⟩) 0 0) := ⟨_, rfl⟩
                                rw [← hW8] at k1 k2 k3 ⊢
                                have HW8 := hidden hW8
                                clear hW8 c2 hrf k4 k5
                                go_upto_region 41 with fail
                                obtain ⟨W9, hW9⟩ : ∃ W9, W9 = W8.setCell ⟨r, 1, none⟩ (.int .u32 q.tsn) := ⟨_, rfl⟩
                                rw [← hW9]
                                have HW9 := hidden hW9
                                obtain ⟨b8h, hzh⟩ := HSTEP2.out W7 W8 W9 (.slice (some ⟨X6.heap.size, 0, none⟩) 0 0) HB7.out HW8.out hW9
                                have a0 := b8h.cell 0 rfl
                                have a1 := b8h.cell 1 rfl
                                have a2 := b8h.cell 2 rfl
                                have z0 := hzh.cell 0 rfl
                                have z1 := hzh.cell 1 rfl
                                have z2 := hzh.cell 2 rfl
                                have zf := hzh.frozen
                                clear hW9 k1 k2 k3 b8h hzh
                                go_wp2
                                obtain ⟨y1, y2⟩ := HFIN.out W7 W8 W9 _ (.slice (some ⟨X6.heap.size, 0, none⟩) 0 0) HB7.out HRW.out HOB.out HW8.out HW9.out rfl
                                rw [hv0] at y1
                                refine bodyPost_ret (res_ct rfl rfl y2) rfl y1
                              · have hop := hP'.rw_
                                rw [hv1] at hop c2
                                by_cases hcu : cp = u
                                · --AUX
                                  obtain ⟨vN, W7, hrun, hrw, hob, hB7⟩ := drop_row (ad := ⟨g, oo, none⟩) hop HONE.out (by rw [hPl]; exact hul) (by rw [hPl]; exact HZ1.out) HI6.out.md.size (.inl ⟨hcu, rfl⟩) 55
                                  rw [hPl] at hrun hv1
                                  obtain ⟨an, cn, hvn, _⟩ := hrw.slice
                                  obtain ⟨ln, hln⟩ : ∃ ln, ln = (P'.drop u).length := ⟨_, rfl⟩
                                  rw [← hln] at hvn
                                  subst hvn
                                  clear hln
                                  have HRUN := hidden hrun
                                  have HB7 := hidden hB7
                                  have HRW := hidden hrw
                                  have HOB := hidden hob
                                  rw [hPl] at c2
                                  have hul' : (u : Int) ≤ (z : Int) := by omega
                                  have hzc : (z : Int) ≤ (cp : Int) := by omega
                                  clear hrun hB7 hrw hob hop hcp hcs hcm hcc hcur hP' hPl hul HONE
                                  obtain ⟨k1, k2, k3, k4, k5⟩ := HSTEP.out W7 (.slice an ln cn) HB7.out
                                  rw [hv1] at k4
                                  go_upto_region 40 with (at_builtin; refine Rg.wpList_app rfl _ _ _ rfl rfl rfl HRUN.out ?_; clear HRUN)
                                  obtain ⟨W8, hW8⟩ : ∃ W8, W8 = W7.setCell ⟨r, 2, none⟩ (.slice an ln cn) := ⟨_, rfl⟩
                                  rw [← hW8] at k1 k2 k3 ⊢
                                  have HW8 := hidden hW8
                                  clear hW8 c2 hrf k4 k5
                                  go_upto_region 41 with fail
                                  obtain ⟨W9, hW9⟩ : ∃ W9, W9 = W8.setCell ⟨r, 1, none⟩ (.int .u32 q.tsn) := ⟨_, rfl⟩
                                  rw [← hW9]
                                  have HW9 := hidden hW9
                                  obtain ⟨b8h, hzh⟩ := HSTEP2.out W7 W8 W9 (.slice an ln cn) HB7.out HW8.out hW9
                                  have a0 := b8h.cell 0 rfl
                                  have a1 := b8h.cell 1 rfl
                                  have a2 := b8h.cell 2 rfl
                                  have z0 := hzh.cell 0 rfl
                                  have z1 := hzh.cell 1 rfl
                                  have z2 := hzh.cell 2 rfl
                                  have zf := hzh.frozen
                                  clear hW9 k1 k2 k3 b8h hzh
                                  go_wp2
                                  obtain ⟨y1, y2⟩ := HFIN.out W7 W8 W9 _ (.slice an ln cn) HB7.out HRW.out HOB.out HW8.out HW9.out rfl
                                  rw [hv1] at y1
                                  refine bodyPost_ret (res_ct rfl rfl y2) rfl y1
                                · --AUX
                                  obtain ⟨vN, W7, hrun, hrw, hob, hB7⟩ := drop_row (ad := ⟨g, oo + u * 14, none⟩) hop HONE.out (by rw [hPl]; exact hul) (by rw [hPl]; exact HZ1.out) HI6.out.md.size (.inr rfl) 55
                                  rw [hPl] at hrun hv1
                                  obtain ⟨an, cn, hvn, _⟩ := hrw.slice
                                  obtain ⟨ln, hln⟩ : ∃ ln, ln = (P'.drop u).length := ⟨_, rfl⟩
                                  rw [← hln] at hvn
                                  subst hvn
                                  clear hln
                                  have HRUN := hidden hrun
                                  have HB7 := hidden hB7
                                  have HRW := hidden hrw
                                  have HOB := hidden hob
                                  rw [hPl] at c2
                                  have hul' : (u : Int) ≤ (z : Int) := by omega
                                  have hzc : (z : Int) ≤ (cp : Int) := by omega
                                  clear hrun hB7 hrw hob hop hcp hcs hcm hcc hcur hP' hPl hul HONE
                                  obtain ⟨k1, k2, k3, k4, k5⟩ := HSTEP.out W7 (.slice an ln cn) HB7.out
                                  rw [hv1] at k4
                                  go_upto_region 40 with (at_builtin; refine Rg.wpList_app rfl _ _ _ rfl rfl rfl HRUN.out ?_; clear HRUN)
                                  obtain ⟨W8, hW8⟩ : ∃ W8, W8 = W7.setCell ⟨r, 2, none⟩ (.slice an ln cn) := ⟨_, rfl⟩
                                  rw [← hW8] at k1 k2 k3 ⊢
                                  have HW8 := hidden hW8
                                  clear hW8 c2 hrf k4 k5
                                  go_upto_region 41 with fail
                                  obtain ⟨W9, hW9⟩ : ∃ W9, W9 = W8.setCell ⟨r, 1, none⟩ (.int .u32 q.tsn) := ⟨_, rfl⟩
                                  rw [← hW9]
                                  have HW9 := hidden hW9
                                  obtain ⟨b8h, hzh⟩ := HSTEP2.out W7 W8 W9 (.slice an ln cn) HB7.out HW8.out hW9
                                  have a0 := b8h.cell 0 rfl
                                  have a1 := b8h.cell 1 rfl
                                  have a2 := b8h.cell 2 rfl
                                  have z0 := hzh.cell 0 rfl
                                  have z1 := hzh.cell 1 rfl
                                  have z2 := hzh.cell 2 rfl
                                  have zf := hzh.frozen
                                  clear hW9 k1 k2 k3 b8h hzh
                                  go_wp2
                                  obtain ⟨y1, y2⟩ := HFIN.out W7 W8 W9 _ (.slice an ln cn) HB7.out HRW.out HOB.out HW8.out HW9.out rfl
                                  rw [hv1] at y1
                                  refine bodyPost_ret (res_ct rfl rfl y2) rfl y1
end
end Go.Proofs.Ytjceeckcfjjkkaa.Ob
