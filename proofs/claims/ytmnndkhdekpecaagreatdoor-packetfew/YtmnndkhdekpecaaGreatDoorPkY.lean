/-
  The document's Bundle.
  Conditions: the cells hold the chunks.
-/
import Derived.Test.YtmnndkhdekpecaaGreatDoorPkW
import Derived.Test.YtmnndkhdekpecaaGreatDoorCx
namespace Go.Proofs.YtmnndkhdekpecaaGreatDoor.Pkt
open Go.ChangeShapes Go.WideShapes Go.ChangeAt Go.RowKit
open Chu (Ch Ck Cks Chk val cv cc ccs ld Lies Lsts Bx zck Nums AvC clen tot chk gr_set)
open Par (hidden Bytes Row Prm Prms One cell_lt)
set_option linter.unusedVariables false
set_option maxRecDepth 20000
attribute [local go_sem ↓] Chu.execOp_ld Chu.execOp_bx Chu.execOp_st Chu.execOp_bs
attribute [local go_sem] Chu.run_box Chu.run_bsl

theorem aloneB_no {k : Int} (h : ¬ alone k) : aloneB k = false := decide_eq_false h
/-- a chunk that came in lies elsewhere than what is new -/
theorem av_in {base n : Nat} {w : World} {c : Ck} (h : Lsts base w c) (hn : w.heap.size ≤ n) : ∀ g, n ≤ g → AvC (some g) c :=
  fun g hg => Chu.avC_of h (fun b u off _ hc e => by cases e; have := cell_lt hc; simp only at this; omega)
section
variable {a : Act} {o : Oper} {w : World}
theorem r_len {p : Option Addr} {len cap : Nat} (x : Operand) (hx : a.eval x = .slice p len cap) (ho : o.op = .call { callee := .builtin .len, args := #[x], argTypes := #[48] }) : (execOp a.eval o).run Tryz.prog w = .ok (.value (.int .i64 (len : Int))) w := by
  unfold execOp
  simp only [ho, resolve, invoke, builtin, Sem.run_bind, Sem.run_pure, Result.andThen_ok, List.map_toArray, List.map_cons, List.map_nil, hx]
  go_simp
theorem r_dec {k : Nat} (x : Operand) (hx : a.eval x = .int .i64 (k : Int)) (hk : k ≤ 1000000000000) (ho : o.op = .binOp .sub 3 x (.const (.int .i64 1)) 3) : (execOp a.eval o).run Tryz.prog w = .ok (.value (.int .i64 ((k : Int) - 1))) w := by
  have e : a.eval (.const (.int .i64 1)) = .int .i64 1 := rfl
  unfold execOp
  rw [ho]
  simp only [hx, e]
  go_simp
  rw [IntKind.wrap_i64]
  omega
theorem r_ixC {b off len cap k : Nat} (x y : Operand) (hx : a.eval x = .slice (some ⟨b, off, none⟩) len cap) (hy : a.eval y = .int .i64 (k : Int)) (hk : k < len) (ho : o.op = .indexAddr 24 x y) : (execOp a.eval o).run Tryz.prog w = .ok (.value (.pointer (some ⟨b, off + k * 15, none⟩))) w := by
  have i1 : (k : Int) < (len : Int) := by omega
  unfold execOp
  rw [ho]
  simp only [hx, hy]
  go_simp
end
theorem more0 {m : Int} {vs : List Ch} {v : Ch} : ¬ more (bun m (vs.take 0)) v := fun h => h.1 rfl
set_option maxHeartbeats 2000000 in
theorem rBundle (base : Nat) (m : Int) (w : World) (la : Option Addr) (n lcap : Nat) (l : List Ck) (hl : Cks base w la n l) (hbm : ∀ c ∈ l, c.bl ≤ 140737488351232) (hm : -9223372036854775808 ≤ m ∧ m ≤ 9223372036854775807) (hn : n * 152 ≤ 140737488351232) :
    Calls Tryz.prog 21 #[.int .i64 m, .slice la n lcap] w fun e w' => BnE w.heap.size base m (l.map val) w' e ∧ Below w.heap.size w w' := by
  have HL := hidden hl
  have HBM := hidden hbm
  have hll : (l.map val).length = n := by rw [List.length_map]; exact hl.1
  clear hl hbm
  go_enter Tryz.func21, Tryz.ntmps21
  by_cases h1 : m < 100
  · go_wp2
    go_ret2
    exact ⟨BnE.none (.one (.inl h1)), Below.refl _ _⟩
  by_cases h2 : 1500 < m
  · go_wp2
    go_ret2
    exact ⟨BnE.none (.one (.inr h2)), Below.refl _ _⟩
  have hmm : 100 ≤ m ∧ m ≤ 1500 := by omega
  go_wp2_with fail
  go_loopw [6] (fun i wr => ∃ k : Nat, k ≤ n ∧ i = .int .i64 k ∧ (∀ v ∈ (l.map val).take k, chk v = 0) ∧ Below w.heap.size w wr) (fun i _ => n - (intOf i).toNat)
  case atStart => exact ⟨0, Nat.zero_le _, rfl, (fun p hp => by simp at hp), Below.refl _ _⟩
  case round =>
    obtain ⟨k, hk, rfl, hok, hb⟩ := hrel
    rcases Nat.lt_or_ge k n with hlt | hge
    · obtain ⟨b, off, c, rfl, hpk, l1, hcc⟩ := (HL.out.later hb).get hlt
      have CK := hidden (Chu.rCheck base c wr hcc (HBM.out c (List.mem_of_getElem? hpk)))
      have HB := hidden hb
      have HOK := hidden hok
      have hvk : (l.map val)[k]? = some (val c) := by rw [List.getElem?_map, hpk]; rfl
      have HVK := hidden hvk
      clear hpk hcc hb hok hvk
      go_wp2_with fail
      refine Calls.mono CK.out ?_
      rintro e w1 ⟨rfl, b1⟩
      have HB1 := hidden (HB.out.trans (b1.mono HB.out.size))
      clear b1 CK HB
      by_cases hz : chk (val c) = 0
      · have HZ := hidden hz
        rw [hz]
        clear hz
        go_wp2
        go_roundw
        case rel => exact ⟨k + 1, by omega, by go_num, take_snoc HVK.out HOK.out HZ.out, HB1.out⟩
        case measure => simp [intOf]; omega
      · have HBO := hidden (BunO.bad hmm HVK.out hz HOK.out)
        generalize chk (val c) = er at *
        go_wp2
        go_ret2
        exact ⟨BnE.none HBO.out, HB1.out⟩
    · obtain rfl : k = n := by omega
      rw [List.take_of_length_le (by omega)] at hok
      have HOK := hidden hok
      have HB0 := hidden hb
      obtain ⟨w0, rfl⟩ : ∃ x, x = wr := ⟨_, rfl⟩
      clear hok hb
      go_wp2_with fail
      go_loopw [8] (fun i wr => ∃ j : Nat, j ≤ k ∧ i = .int .i64 j ∧ (∀ v ∈ (l.map val).take j, (clen v : Int) + 12 ≤ m) ∧ Below w.heap.size w wr) (fun i _ => k - (intOf i).toNat)
      case atStart => exact ⟨0, Nat.zero_le _, rfl, (fun p hp => by simp at hp), HB0.out⟩
      case round =>
        obtain ⟨j, hj, rfl, hfit, hb⟩ := hrel
        rcases Nat.lt_or_ge j k with hlt | hge
        · obtain ⟨b, off, c, rfl, hpk, l1, hcc⟩ := (HL.out.later hb).get hlt
          have hvk : (l.map val)[j]? = some (val c) := by rw [List.getElem?_map, hpk]; rfl
          have hck : chk (val c) = 0 := HOK.out _ (List.mem_of_getElem? hvk)
          have hcs : Chu.csize (val c) = clen (val c) := by unfold Chu.csize; rw [if_pos hck]
          have hle := Chu.clen_le hck
          have CK := hidden (Chu.rCsize base c wr hcc (HBM.out c (List.mem_of_getElem? hpk)))
          rw [hcs] at CK
          have HB := hidden hb
          have HFI := hidden hfit
          have HVK := hidden hvk
          clear hpk hcc hb hfit hvk hcs hck
          generalize hcv : clen (val c) = N at *
          have HN := hidden hcv
          clear hcv
          go_wp2_with fail
          refine Calls.mono CK.out ?_
          rintro e w1 ⟨rfl, b1⟩
          have HB1 := hidden (HB.out.trans (b1.mono HB.out.size))
          clear b1 CK HB
          by_cases hz : m < (N : Int) + 12
          · have HBO := hidden (BunO.long (vs := l.map val) hmm HOK.out (List.mem_of_getElem? HVK.out) (by rw [HN.out]; omega))
            go_wp2
            go_ret2
            exact ⟨BnE.none HBO.out, HB1.out⟩
          · have HZ := hidden (show (clen (val c) : Int) + 12 ≤ m by rw [HN.out]; omega)
            go_wp2
            go_roundw
            case rel => exact ⟨j + 1, by omega, by go_num, take_snoc HVK.out HFI.out HZ.out, HB1.out⟩
            case measure => simp [intOf]; omega
        · obtain rfl : j = k := by omega
          rw [List.take_of_length_le (by omega)] at hfit
          have HFI := hidden hfit
          have HB9 := hidden hb
          have HBI := hidden (BI.all (m := m) (vs := l.map val) hfit)
          obtain ⟨w9, rfl⟩ : ∃ x, x = wr := ⟨_, rfl⟩
          clear hfit hb
          go_wp2_with fail
          go_loopw [9, 10, 11] (fun v r i wr => ∃ k R, k ≤ j ∧ i = .int .i64 ((k : Nat) : Int) ∧ RL w.heap.size base v R wr ∧ rvs R = rowsOf (bun m ((l.map val).take k)) ∧ r = .int .i64 (bun m ((l.map val).take k)).2.2 ∧ Below w.heap.size w wr) (fun _ _ i _ => j - (intOf i).toNat)
          case atStart => exact ⟨0, [], Nat.zero_le _, rfl, RL.nil _ _ _, rfl, rfl, HB9.out⟩
          case round =>
            obtain ⟨k, R, hkn, rfl, hR, hv, rfl, hb⟩ := hrel
            rcases Nat.lt_or_ge k j with hlt | hge
            · obtain ⟨b, off, c, rfl, hpk, l1, hcc⟩ := (HL.out.later hb).get hlt
              have hvk : (l.map val)[k]? = some (val c) := by rw [List.getElem?_map, hpk]; rfl
              have hck : chk (val c) = 0 := HOK.out _ (List.mem_of_getElem? hvk)
              have hcl := HFI.out _ (List.mem_of_getElem? hvk)
              have hc4 := Chu.clen_pos (val c)
              have hbi := HBI.out k (by omega)
              have HSZ := hidden (Chu.rCsize base c wr hcc (HBM.out c (List.mem_of_getElem? hpk)))
              have hcs : Chu.csize (val c) = clen (val c) := by unfold Chu.csize; rw [if_pos hck]
              rw [hcs] at HSZ
              have HCC := hidden hcc
              have HC0 := hidden (HL.out.2.2.1 c (List.mem_of_getElem? hpk))
              have HRL := hidden hR
              have HV := hidden hv
              have HB := hidden hb
              have HPK := hidden hpk
              have HI := hidden hbi
              have HCK := hidden hck
              have HVK := hidden hvk
              have i1 : ((k : Nat) : Int) < (j : Int) := by omega
              clear hpk hcc hR hv hb hcs hbi hck hvk
              generalize hcv : clen (val c) = N at *
              have HN := hidden hcv
              clear hcv
              go_wp2_with fail
              refine Calls.mono HSZ.out ?_
              rintro e w1 ⟨rfl, b1⟩
              have HR1 := hidden (HRL.out.later b1)
              have HBW := hidden (HB.out.trans (b1.mono HB.out.size))
              have hnw : w.heap.size ≤ w1.heap.size := HBW.out.size
              obtain ⟨va, vcap, rfl⟩ : ∃ va vcap, u9 = .slice va R.length vcap := by obtain ⟨a, cap, e, _⟩ := own_lies HR1.out.1; exact ⟨a, cap, e⟩
              have hroom : 0 ≤ (bun m ((l.map val).take k)).2.2 ∧ (bun m ((l.map val).take k)).2.2 ≤ 1500 ∧ (R = [] → (bun m ((l.map val).take k)).2.2 = 0) := bun_room HI.out hmm.2 HV.out
              have hRlen : R.length ≤ k := by
                have h1 := bun_len HI.out
                rw [List.length_take, hll, ← HV.out] at h1
                simp [rvs] at h1
                omega
              generalize hrm : (bun m ((l.map val).take k)).2.2 = room at *
              have HRO := hidden hrm
              obtain ⟨r1, r2, r3⟩ := hroom
              have HR3 := hidden r3
              have L1 := hidden (show ∀ w', Below w1.heap.size w1 w' → (ld (.pointer (some ⟨b, off + k * 15, none⟩))).run Tryz.prog w' = .ok (cv c) w' from fun w' hb' => by
                obtain ⟨b', off', c', e1, e2, e3, _⟩ := ((HL.out.later HBW.out).later hb').get hlt
                cases e1
                rw [HPK.out] at e2
                cases e2
                exact e3)
              clear hrm r3 b1 HSZ l1
              go_upto_region 20 with fail
              go_cut [83] from 58 to 83 (fun t wx => ∃ bt : Bool, t = .bool bt ∧ (bt = true ↔ more (bun m ((l.map val).take k)) (val c)) ∧ w1 = wx)
              case first =>
                by_cases hk0 : k = 0
                · subst hk0
                  go_wp2_with fail
                  go_meet
                  exact ⟨false, rfl, ⟨fun e => (by cases e), fun h => absurd h more0⟩, rfl⟩
                · have i2 : (0 : Int) < (k : Int) := by omega
                  by_cases hle : (N : Int) ≤ room
                  · obtain ⟨b2, off2, c2, e2, hp2, hc2⟩ := kind_at (HL.out.later HBW.out) hlt
                    cases e2
                    rw [HPK.out] at hp2
                    cases hp2
                    obtain ⟨b3, off3, c3, e3, hp3, hc3⟩ := kind_at (HL.out.later HBW.out) (k := k - 1) (by omega)
                    cases e3
                    have hlast := BI.last (k := k - 1) (vs := l.map val) (u := val c3) (by rw [Nat.sub_add_cancel (by omega)]; exact HI.out) (by rw [List.getElem?_map, hp3]; rfl)
                    have HMO := hidden (more_of (v := val c) HI.out hlast)
                    rw [HN.out, HRO.out] at HMO
                    have i3 : 0 ≤ (k : Int) - 1 := by omega
                    have i4 : (k : Int) - 1 < (j : Int) := by omega
                    have i5 : ((k : Int) - 1).toNat = k - 1 := by omega
                    clear hlast hp3
                    have HK1 : c.kind = (val c).kind := rfl
                    have HK3 : c3.kind = (val c3).kind := rfl
                    rw [HK1] at hc2
                    rw [HK3] at hc3
                    clear HK1 HK3
                    generalize (val c3).kind = q3 at *
                    have HQ2 := hidden (show ∃ x, (val c).kind = x from ⟨_, rfl⟩)
                    obtain ⟨q2, hq2⟩ := HQ2.out
                    rw [hq2] at hc2 HMO
                    clear hq2 HQ2
                    go_wp2_with fail
                    refine Calls.mono (ralone_says q2 _) ?_
                    rintro e w2 ⟨rfl, rfl⟩
                    by_cases ha : alone q2
                    · rw [(aloneB_iff q2).2 ha]
                      go_wp2_with fail
                      go_meet
                      exact ⟨false, rfl, ⟨fun e => (by cases e), fun h => absurd ha (HMO.out.1 h).2.1⟩, rfl⟩
                    · rw [aloneB_no ha]
                      go_wp2_with fail
                      refine Calls.mono (ralone_says q3 _) ?_
                      rintro e w2 ⟨rfl, rfl⟩
                      by_cases hb3 : alone q3
                      · rw [(aloneB_iff q3).2 hb3]
                        go_wp2_with fail
                        go_meet
                        exact ⟨false, rfl, ⟨fun e => (by cases e), fun h => absurd hb3 (HMO.out.1 h).2.2⟩, rfl⟩
                      · rw [aloneB_no hb3]
                        go_wp2_with fail
                        go_meet
                        exact ⟨true, rfl, ⟨fun _ => HMO.out.2 ⟨hle, ha, hb3⟩, fun _ => rfl⟩, rfl⟩
                  · go_wp2_with fail
                    go_meet
                    refine ⟨false, rfl, ⟨fun e => (by cases e), fun h => absurd h.2.1 ?_⟩, rfl⟩
                    rw [HN.out, HRO.out]
                    omega
              case rest =>
                obtain ⟨bt, rfl, hbt, rfl⟩ := hcut
                have HBT := hidden hbt
                have KC := hidden (HC0.out.later HBW.out)
                have HAV := hidden (show ∀ g, w.heap.size ≤ g → g < w1.heap.size → AvC (some g) c from fun g hg _ => av_in HC0.out.2 (Nat.le_refl _) g hg)
                clear hbt
                cases bt with
                | true =>
                  have hmo := HBT.out.1 rfl
                  have hNr : (N : Int) ≤ room := by have := hmo.2.1; rw [HN.out, HRO.out] at this; exact this
                  have hne : R ≠ [] := fun e => by have := HR3.out e; omega
                  obtain ⟨R0, g, hh, rcap, c0, lr, hRe, rfl, hg1, hg2, hc1, hl0, hk0⟩ := HR1.out.last hne (rows_len HI.out HV.out hmm.2)
                  have HIL := hidden (show ((R.length : Int) - 1 = (R0.length : Int)) ∧ R0.length < R.length by rw [hRe, List.length_append]; simp)
                  have HIM := hidden (show R.length = R0.length + 1 by rw [hRe, List.length_append]; rfl)
                  have hlrl : (c0 :: lr).length ≤ 1000000 := rows_len HI.out HV.out hmm.2 (.slice (some ⟨hh, 0, none⟩) (lr.length + 1) rcap, c0 :: lr) (by rw [hRe]; simp)
                  have HOWN := hidden (show w1.ownsRow w.heap.size 59 15 (.slice (some ⟨hh, 0, none⟩) (lr.length + 1) rcap) (c0 :: lr).length (ccs (c0 :: lr)) from (HR1.out.2.1 (.slice (some ⟨hh, 0, none⟩) (lr.length + 1) rcap, c0 :: lr) (by rw [hRe]; simp)).2)
                  have HRE := hidden hRe
                  have C1 := hidden hc1
                  have HMO := hidden hmo
                  clear hRe hc1 hl0 hk0 hne hmo
                  go_upto_region 21 with fail
                  refine Ord.wp_region_ex (X := Value × Value) (by kernel_rfl) 117 (fun x => [(some 84, .slice (some ⟨g, 0, none⟩) R.length vcap), (some 85, .slice (some ⟨g, 0, none⟩) R.length vcap), (some 86, .int .i64 (R.length : Int)), (some 87, .int .i64 ((R.length : Int) - 1)), (some 88, .slice (some ⟨g, 0, none⟩) R.length vcap), (some 89, .slice (some ⟨g, 0, none⟩) R.length vcap), (some 90, .int .i64 (R.length : Int)), (some 91, .int .i64 ((R.length : Int) - 1)), (some 92, .pointer (some ⟨g, R0.length, none⟩)), (some 93, .slice (some ⟨hh, 0, none⟩) (lr.length + 1) rcap), (some 94, .slice (some ⟨b, off, none⟩) j lcap), (some 95, .int .i64 (k : Int)), (some 96, .pointer (some ⟨b, off + k * 15, none⟩)), (some 97, cv c), (some 98, x.1), (some 99, x.2), (some 100, .pointer (some ⟨g, R0.length, none⟩)), (none, undef)]) [some 84, some 85, some 86, some 87, some 88, some 89, some 90, some 91, some 92, some 93, some 94, some 95, some 96, some 97, some 98, some 99, some 100, none] rfl (by kernel_rfl) (by rfl) (fun _ => rfl) (by kernel_rfl) (StM [14, 15, 17] (fun y x u => GrA w.heap.size base (fun d => d = c) w1 g R0.length c (.slice (some ⟨hh, 0, none⟩) (lr.length + 1) rcap) (c0 :: lr) (y + 1) (cv c, x.1, x.2) u)) (fun _ _ _ _ hL h => h.ext (n := 18) (by decide) hL) ?_ ?_ (undef, undef) ?_
                  case refine_1 =>
                    intro x L i o ac w' ho hi hcl hdep hF hW
                    have f1 : ac.tmps.size = 117 := hF.1
                    match i, ho, hi, hdep with
                    | 0, ho, hi, hdep =>
                      cases ho
                      have da0 : ac.eval (.tmp 9) = .slice (some ⟨g, 0, none⟩) R.length vcap := hF.old 9 rfl
                      exact Ord.ex_value x rfl rfl (q_mv _ rfl da0) rfl (hW.keep (by decide))
                    | 1, ho, hi, hdep =>
                      cases ho
                      have da0 : ac.eval (.tmp 9) = .slice (some ⟨g, 0, none⟩) R.length vcap := hF.old 9 rfl
                      exact Ord.ex_value x rfl rfl (q_mv _ rfl da0) rfl (hW.keep (by decide))
                    | 2, ho, hi, hdep =>
                      cases ho
                      have da0 : ac.eval (.tmp 85) = .slice (some ⟨g, 0, none⟩) R.length vcap := hF.2.2.2 1 85 _ rfl (hdep ⟨1, .data⟩ (by simp) rfl)
                      exact Ord.ex_value x rfl rfl (r_len _ da0 rfl) rfl (hW.keep (by decide))
                    | 3, ho, hi, hdep =>
                      cases ho
                      have da0 : ac.eval (.tmp 86) = .int .i64 (R.length : Int) := hF.2.2.2 2 86 _ rfl (hdep ⟨2, .data⟩ (by simp) rfl)
                      exact Ord.ex_value x rfl rfl (r_dec _ da0 (by omega) rfl) rfl (hW.keep (by decide))
                    | 4, ho, hi, hdep =>
                      cases ho
                      have da0 : ac.eval (.tmp 9) = .slice (some ⟨g, 0, none⟩) R.length vcap := hF.old 9 rfl
                      exact Ord.ex_value x rfl rfl (q_mv _ rfl da0) rfl (hW.keep (by decide))
                    | 5, ho, hi, hdep =>
                      cases ho
                      have da0 : ac.eval (.tmp 9) = .slice (some ⟨g, 0, none⟩) R.length vcap := hF.old 9 rfl
                      exact Ord.ex_value x rfl rfl (q_mv _ rfl da0) rfl (hW.keep (by decide))
                    | 6, ho, hi, hdep =>
                      cases ho
                      have da0 : ac.eval (.tmp 89) = .slice (some ⟨g, 0, none⟩) R.length vcap := hF.2.2.2 5 89 _ rfl (hdep ⟨5, .data⟩ (by simp) rfl)
                      exact Ord.ex_value x rfl rfl (r_len _ da0 rfl) rfl (hW.keep (by decide))
                    | 7, ho, hi, hdep =>
                      cases ho
                      have da0 : ac.eval (.tmp 90) = .int .i64 (R.length : Int) := hF.2.2.2 6 90 _ rfl (hdep ⟨6, .data⟩ (by simp) rfl)
                      exact Ord.ex_value x rfl rfl (r_dec _ da0 (by omega) rfl) rfl (hW.keep (by decide))
                    | 8, ho, hi, hdep =>
                      cases ho
                      have da0 : ac.eval (.tmp 88) = .slice (some ⟨g, 0, none⟩) R.length vcap := hF.2.2.2 4 88 _ rfl (hdep ⟨4, .data⟩ (by simp) rfl)
                      have da1 : ac.eval (.tmp 91) = .int .i64 ((R.length : Int) - 1) := hF.2.2.2 7 91 _ rfl (hdep ⟨7, .data⟩ (by simp) rfl)
                      exact Ord.ex_value x rfl rfl (r_ixL _ _ da0 da1 HIL.out.1 HIL.out.2 rfl) rfl (hW.keep (by decide))
                    | 9, ho, hi, hdep =>
                      cases ho
                      have da0 : ac.eval (.tmp 92) = .pointer (some ⟨g, R0.length, none⟩) := hF.2.2.2 8 92 _ rfl (hdep ⟨8, .data⟩ (by simp) rfl)
                      have h9 : L 15 = false := no_of (fun h => hcl 15 _ rfl h ⟨9, .data⟩ (by simp) rfl) hi
                      obtain ⟨jj, hj, hA⟩ := hW.early (n := 1) rfl h9
                      exact Ord.ex_value x rfl rfl (r_ldR _ da0 rfl (((hA.1 (by omega)).cell (cell_lt C1.out)).trans C1.out)) rfl (hW.keep (by decide))
                    | 10, ho, hi, hdep =>
                      cases ho
                      have da0 : ac.eval (.tmp 1) = .slice (some ⟨b, off, none⟩) j lcap := hF.old 1 rfl
                      exact Ord.ex_value x rfl rfl (q_mv _ rfl da0) rfl (hW.keep (by decide))
                    | 11, ho, hi, hdep =>
                      cases ho
                      have da0 : ac.eval (.tmp 11) = .int .i64 (k : Int) := hF.old 11 rfl
                      exact Ord.ex_value x rfl rfl (q_mv _ rfl da0) rfl (hW.keep (by decide))
                    | 12, ho, hi, hdep =>
                      cases ho
                      have da0 : ac.eval (.tmp 94) = .slice (some ⟨b, off, none⟩) j lcap := hF.2.2.2 10 94 _ rfl (hdep ⟨10, .data⟩ (by simp) rfl)
                      have da1 : ac.eval (.tmp 95) = .int .i64 (k : Int) := hF.2.2.2 11 95 _ rfl (hdep ⟨11, .data⟩ (by simp) rfl)
                      exact Ord.ex_value x rfl rfl (r_ixC _ _ da0 da1 hlt rfl) rfl (hW.keep (by decide))
                    | 13, ho, hi, hdep =>
                      cases ho
                      have da0 : ac.eval (.tmp 96) = .pointer (some ⟨b, off + k * 15, none⟩) := hF.2.2.2 12 96 _ rfl (hdep ⟨12, .data⟩ (by simp) rfl)
                      have h7 : L 14 = false := no_of (fun h => hcl 14 _ rfl h ⟨13, .data⟩ (by simp) rfl) hi
                      have hA := hW.at (k := 0) rfl h7 (.inl rfl)
                      exact Ord.ex_value x rfl rfl (r_ldC _ da0 rfl (L1.out _ (hA.1 (by decide)))) rfl (hW.keep (by decide))
                    | 14, ho, hi, hdep =>
                      cases ho
                      have da0 : ac.eval (.tmp 97) = cv c := hF.2.2.2 13 97 _ rfl (hdep ⟨13, .data⟩ (by simp) rfl)
                      have hA := hW.at (k := 0) rfl hi (.inl rfl)
                      exact Ord.ex_letter x (.slice (some ⟨w'.heap.size, 0, none⟩) 1 1, x.2) rfl rfl (r_bs1 _ da0 rfl) rfl (fun j hj => match j, hj with | 0, _ => rfl | 1, _ => rfl | 2, _ => rfl | 3, _ => rfl | 4, _ => rfl | 5, _ => rfl | 6, _ => rfl | 7, _ => rfl | 8, _ => rfl | 9, _ => rfl | 10, _ => rfl | 11, _ => rfl | 12, _ => rfl | 13, _ => rfl | 14, hj => absurd hj (by rw [hi]; decide) | 15, _ => rfl | 16, _ => rfl | 17, _ => rfl | _ + 18, _ => rfl) (hW.next (k := 0) rfl (by decide) hi (.inl rfl) (GrA.s1 hA rfl rfl (KC.out.later (hA.1 (by decide))) rfl))
                    | 15, ho, hi, hdep =>
                      cases ho
                      have da0 : ac.eval (.tmp 93) = .slice (some ⟨hh, 0, none⟩) (lr.length + 1) rcap := hF.2.2.2 9 93 _ rfl (hdep ⟨9, .data⟩ (by simp) rfl)
                      have da1 : ac.eval (.tmp 98) = x.1 := hF.2.2.2 14 98 _ rfl (hdep ⟨14, .data⟩ (by simp) rfl)
                      have hA := hW.at (k := 1) rfl hi (.inr ⟨14, rfl, hdep ⟨14, .data⟩ (by simp) rfl⟩)
                      obtain ⟨v', w2, hr, hA2⟩ := hA.s2 hnw HOWN.out hlrl 24
                      exact Ord.ex_letter x (x.1, v') rfl rfl (r_ap _ _ da0 da1 rfl hr) rfl (fun j hj => match j, hj with | 0, _ => rfl | 1, _ => rfl | 2, _ => rfl | 3, _ => rfl | 4, _ => rfl | 5, _ => rfl | 6, _ => rfl | 7, _ => rfl | 8, _ => rfl | 9, _ => rfl | 10, _ => rfl | 11, _ => rfl | 12, _ => rfl | 13, _ => rfl | 14, _ => rfl | 15, hj => absurd hj (by rw [hi]; decide) | 16, _ => rfl | 17, _ => rfl | _ + 18, _ => rfl) (hW.next (k := 1) rfl (by decide) hi (.inr ⟨14, rfl, hdep ⟨14, .data⟩ (by simp) rfl⟩) hA2)
                    | 16, ho, hi, hdep =>
                      cases ho
                      have da0 : ac.eval (.tmp 84) = .slice (some ⟨g, 0, none⟩) R.length vcap := hF.2.2.2 0 84 _ rfl (hdep ⟨0, .data⟩ (by simp) rfl)
                      have da1 : ac.eval (.tmp 87) = .int .i64 ((R.length : Int) - 1) := hF.2.2.2 3 87 _ rfl (hdep ⟨3, .data⟩ (by simp) rfl)
                      exact Ord.ex_value x rfl rfl (r_ixL _ _ da0 da1 HIL.out.1 HIL.out.2 rfl) rfl (hW.keep (by decide))
                    | 17, ho, hi, hdep =>
                      cases ho
                      have da0 : ac.eval (.tmp 100) = .pointer (some ⟨g, R0.length, none⟩) := hF.2.2.2 16 100 _ rfl (hdep ⟨16, .data⟩ (by simp) rfl)
                      have da1 : ac.eval (.tmp 99) = x.2 := hF.2.2.2 15 99 _ rfl (hdep ⟨15, .data⟩ (by simp) rfl)
                      have hA := hW.at (k := 2) rfl hi (.inr ⟨15, rfl, hdep ⟨15, .data⟩ (by simp) rfl⟩)
                      obtain ⟨⟨v0, hv0⟩, hfz, a3, k3, q3, e3⟩ := GrA.cell hA HR1.out HRE.out
                      obtain ⟨x1, x2⟩ := x
                      simp only at e3
                      subst e3
                      exact ex_skip _ rfl rfl (r_sR _ _ da0 da1 rfl hv0 hfz) rfl (hW.next (k := 2) rfl (by decide) hi (.inr ⟨15, rfl, hdep ⟨15, .data⟩ (by simp) rfl⟩) (GrA.s3 hA))
                  case refine_3 => exact ⟨0, by decide, (fun j c hj => ⟨fun e => Bool.noConfusion e, fun e => absurd e (Nat.not_lt_zero _)⟩), fun _ => (Below.refl _ _).drew, fun _ => ⟨c, rfl, rfl, KC.out.later (Below.refl _ _).drew, rfl⟩, fun e => (by cases e), fun e => by omega⟩
                  intro x w2 hW
                  simp only [Ord.puts, Ord.prs]
                  go_simp
                  obtain ⟨jj, hj1, hj2, hA⟩ := hW
                  have hj3 := (hj2 2 17 rfl).1 rfl
                  obtain rfl : jj = 3 := by simp at hj1; omega
                  obtain ⟨c', w3, w4, e, q1, ⟨q2, hcc'⟩, q3, q4, q5, _, q6⟩ := hA.2.2.2 (by decide)
                  subst hcc'
                  obtain rfl := q6 rfl
                  obtain ⟨x1, x3⟩ := x
                  simp only at q3 q5 ⊢
                  have HNX := hidden (RL.grow' HR1.out HRE.out HIM.out q1 q2 HAV.out q3 q4 q5)
                  have HBN : Hid (Below w.heap.size w (w4.setCell ⟨g, R0.length, none⟩ x3)) := by
                    have t1 := (HBW.out.trans (q1.mono hnw)).grown q4 (Nat.le_trans hnw q1.size) (fun b hb => (HOWN.out.lt b hb).1)
                    exact hidden (t1.grown (gr_set w4 g R0.length x3) t1.size (fun b hb => by cases hb; exact hg1))
                  obtain ⟨z1, z2⟩ := bun_yes (rv2 := x3) HVK.out HMO.out (HRE.out ▸ HV.out) e
                  rw [HN.out, HRO.out] at z2
                  have HZ1 := hidden z1
                  have HZ2 := hidden z2
                  clear hj1 hj2 hj3 hA e q1 q2 q3 q4 q5 q6 z1 z2
                  go_wp2
                  go_roundw
                  case rel => exact ⟨k + 1, _, by omega, by go_num, HNX.out, HZ1.out, by rw [HZ2.out], HBN.out⟩
                  case measure => simp [intOf]; omega
                | false =>
                  have hmo : ¬ more (bun m ((l.map val).take k)) (val c) := fun h => by have := HBT.out.2 h; cases this
                  have HMO := hidden hmo
                  clear hmo
                  have l1 := L1.out _ (Below.refl _ _)
                  have t1 := below_new w1 (.cells (cc c) 59)
                  have t2 := below_new (w1.alloc (.cells (cc c) 59)) (.cells #[.slice (some ⟨w1.heap.size, 0, none⟩) 1 1] 24)
                  have HBX := hidden (t1.trans (t2.mono t1.size))
                  have HKX := hidden (KC.out.later HBX.out)
                  have HRX := hidden (ownLater (show (w1.alloc (.cells (cc c) 59)).ownsRow w1.heap.size 59 15 (.slice (some ⟨w1.heap.size, 0, none⟩) 1 1) 1 (cc c).toList from World.ownsRow_lit w1 (cc c) 1 (Nat.le_refl _) (by decide) rfl) t2)
                  have HAX := hidden (show AvC (some w1.heap.size) c from av_in HC0.out.2 (Nat.le_refl _) _ hnw)
                  have HOX := hidden ((HR1.out.later HBX.out).1)
                  have HNW : Hid (∀ j u, [Value.slice (some ⟨w1.heap.size, 0, none⟩) 1 1][j]? = some u → ((w1.alloc (.cells (cc c) 59)).alloc (.cells #[.slice (some ⟨w1.heap.size, 0, none⟩) 1 1] 24)).cell? ((⟨w1.heap.size + 1, 0, none⟩ : Addr).add j) = some u) := hidden fun j u hj => by
                    rw [Go.WideShapes.add_plain, Nat.zero_add]
                    have h1 := heap_alloc_new (w1.alloc (.cells (cc c) 59)) (.cells #[.slice (some ⟨w1.heap.size, 0, none⟩) 1 1] 24)
                    rw [World.size_alloc] at h1
                    simp only [World.cell?, h1]
                    simpa using hj
                  have hsX := HBX.out.size
                  clear t1 t2
                  obtain ⟨j0, hj, hy0, hy1, hy2⟩ := info_parts infoCs
                  go_wp2_with (at_builtin; refine Chu.wpList_append_at rfl _ _ 48 rfl w.heap.size 24 j0 (.slice none 0 0) Tryz.underlying48 hj hy0 (by rw [hy1]; rfl) (by rw [hy1]; decide) _ _ _ rfl (by rw [hy1]; exact HOX.out) ⟨w1.heap.size + 1, 0, none⟩ 1 1 [.slice (some ⟨w1.heap.size, 0, none⟩) 1 1] rfl (by rw [hy1]; rfl) HNW.out (fun u hu => by obtain rfl := List.mem_singleton.1 hu; rfl) (by decide) ?c3 ?c4 ?c5 ?_)
                  case c3 => unfold maxLen; omega
                  case c4 => rw [hy2]; omega
                  case c5 => exact Nat.le_trans hnw hsX
                  intro v3 w3 ho3 hg3 hw3
                  have HNX := hidden (RL.push HR1.out hnw HBX.out HKX.out HAV.out HRX.out HAX.out ho3 hg3 (by rw [World.size_alloc, World.size_alloc]; exact hw3))
                  have HBN := hidden ((HBW.out.trans (HBX.out.mono hnw)).grown hg3 (Nat.le_trans hnw hsX) (fun b hb => (HOX.out.lt b hb).1))
                  obtain ⟨z1, z2⟩ := bun_no (rv := .slice (some ⟨w1.heap.size, 0, none⟩) 1 1) (c := c) HVK.out HMO.out HV.out rfl
                  rw [HN.out] at z2
                  have HZ1 := hidden z1
                  have HZ2 := hidden z2
                  clear ho3 hg3 hw3 z1 z2
                  go_wp2
                  go_roundw
                  case rel => exact ⟨k + 1, _, by omega, by go_num, HNX.out, HZ1.out, by rw [HZ2.out], HBN.out⟩
                  case measure => simp [intOf]; omega
            · obtain rfl : k = j := by omega
              rw [List.take_of_length_le (by omega)] at hv
              have HBO := hidden (BunO.good (vs := l.map val) hmm HOK.out HFI.out)
              rw [← hv] at HBO
              have HR := hidden hR
              clear hv hR
              go_wp2
              go_ret2
              exact ⟨⟨_, R, 0, rfl, HR.out, HBO.out⟩, hb⟩
end Go.Proofs.YtmnndkhdekpecaaGreatDoor.Pkt
