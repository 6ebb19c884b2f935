/-
  Nothing is shared: a message that is changed behind its Push, and a piece that is changed behind its Take, change nothing of the queue, for every message.
  Conditions: none.
-/
import Derived.Test.YtfgoamfoddkafaaRows
import Derived.WalkKit
import Derived.ProofKit
import Derived.OpenShut
import Derived.ShutString
import Derived.ChangeOld
import Derived.Below
import Derived.SizedLaws
import Derived.Deep.DeepHandedRow
import Derived.LaidLaws
import Derived.ChangeMaps5
import Derived.Test.YtfgoamfoddkafaaSqL
import Derived.Test.YtfgoamfoddkafaaSqArgs
namespace Go.Proofs.Ytfgoamfoddkafaa.streamsOwn
open Go.ChangeShapes Go.WideShapes Go.ChangeAt Go.RowKit
open Go.ChangeMaps (open_string shut_string)
set_option linter.unusedVariables false

theorem own : ownKnob Try.prog.godebug = none := by kernel_rfl
theorem laidOut : laidOutB Try.prog = true := by kernel_rfl

open Ba (hidden Has cell_lt)
open Sq
def B0 : St := newS 1 1073741824
def B1 (z : List Int) : St := pushS B0 0 0 false z
def B2 (z : List Int) : St := pushS (B1 z) 0 0 true z
theorem own_p {z : List Int} (h1 : ¬ z.length < 1) (h2 : ¬ 65536 < z.length) : pushE B0 0 z = 0 ∧ pushE (B1 z) 0 z = 0 := by
  constructor
  · unfold pushE
    rw [if_neg (by decide), if_neg (by omega), if_neg (by show ¬ (1073741824 : Int) - (0 + 0) < _; omega)]
  · unfold pushE
    rw [if_neg (by show ¬ ((1 : Nat) : Int) ≤ 0; decide), if_neg (by omega), if_neg (by show ¬ (1073741824 : Int) - (0 + (z.length : Int) + 0) < _; omega)]
theorem own_l {S : St} {z : List Int} (hn : S.n = 1) (h : z.length < 1 ∨ 65536 < z.length) : pushE S 0 z = 2 := by
  unfold pushE
  rw [if_neg (by rw [hn]; decide), if_pos h]
def B3 (z : List Int) : St := takeS (B2 z) 0 ⟨0, 0, 0, false, z, true⟩ [⟨0, 0, 0, true, z, true⟩] (z.length : Int)
def B4 (z : List Int) : St := takeS (B3 z) 0 ⟨0, 0, 0, true, z, true⟩ [] (z.length : Int)
theorem own_t1 {z : List Int} (h1 : ¬ z.length < 1) : tak (B2 z) (z.length : Int) = some (⟨0, 0, 0, false, z, true, true⟩, B3 z) := by
  have hx : nxt (B2 z) = some 0 := nxt_one rfl (by show [_, _] ≠ []; simp)
  rw [tak_of (by omega) hx (r := ⟨0, 0, 0, false, z, true⟩) (rs := [⟨0, 0, 0, true, z, true⟩]) rfl]
  simp [cut, B3, nsn]
  rfl
theorem own_t2 {z : List Int} (h1 : ¬ z.length < 1) : tak (B3 z) (z.length : Int) = some (⟨0, 0, 0, true, z, true, true⟩, B4 z) := by
  have hR : (B3 z).R 0 = [⟨0, 0, 0, true, z, true⟩] := by
    show left _ _ _ ++ [_] = _
    rw [left_all (Int.le_refl _)]
    rfl
  have hx : nxt (B3 z) = some 0 := nxt_one rfl (by rw [hR]; simp)
  rw [tak_of (by omega) hx hR]
  simp [cut, B4, nsn]
theorem run_ixB {b k n cap : Nat} {off : Nat} (hk : k < n) (w : World) : (Instr.indexAt 34 (.slice (some ⟨b, off, none⟩) n cap) (.int .i64 (k : Int))).run Try.prog w = .ok (.pointer (some ⟨b, off + k, none⟩)) w := by
  simp [go_sem, hk]
set_option maxRecDepth 20000 in
set_option maxHeartbeats 4000000 in

theorem walk (a0 : Option Addr) (len0 cap0 : Nat) (z0 : List Int) (w : World) (w0 : Sq.Row w a0 len0 z0) (s0 : len0 ≤ cap0 ∧ cap0 ≤ 140737488351232 ∧ (a0 = none → len0 = 0 ∧ cap0 = 0)) :
    Calls Try.prog 8 #[.slice a0 len0 cap0] w fun e w' => e = .returned (.bool true) ∧ Below w.heap.size w w' := by
  obtain ⟨s1, s2, s3⟩ := s0
  have N := hidden (new (fun _ => False) 1 1073741824 (by decide) (by decide) (by decide) (by decide) w)
  have hl := w0.1
  have HR0 := hidden w0
  have HNIL := hidden s3
  clear w0 s1 s2 s3
  go_enter Try.func8, Try.ntmps8
  go_wp2_with fail
  refine Calls.mono N.out ?_
  rintro e w1 ⟨t, rfl, ⟨F1, hc1, hF1⟩, hB1⟩
  have H1 : Hid (Sq.Sys (fun _ => False) w w1 t B0 F1 []) := Sys.start hc1 hF1 hB1
  clear hc1 hF1 hB1 N
  go_wp2_with fail
  refine Calls.mono (awake w1) ?_
  rintro e w2 ⟨rfl, hb2⟩
  have H2 := hidden (H1.out.later hb2)
  clear hb2 H1
  obtain ⟨g, vc, w3, hrun, hm3, hB3, hg1, hg2⟩ := own_copy (cap := cap0) (HR0.out.later H2.out.bl) HNIL.out
  have HRUN := hidden hrun
  have H3 : Hid (Sq.Sys (fun k => k ≠ g) w w3 t B0 F1 []) := by
    have h3 := H2.out.later hB3
    exact ⟨h3.cd.named (fun k cur hd _ => hd.elim), h3.fb, h3.bl, h3.hs⟩
  have HM3 := hidden hm3
  have HG := hidden (And.intro (Nat.le_trans H2.out.bl.size hg1) hg2)
  clear hrun hm3 hB3 hg1 hg2
  have hrow3 : Row w3 (some ⟨g, 0, none⟩) len0 z0 := by
    obtain ⟨a, c, e, hr, _⟩ := HM3.out.row
    cases e
    exact hl ▸ hr
  by_cases hbad : z0.length < 1 ∨ 65536 < z0.length
  · have P1 := pushX H3.out.cd (s := 0) (pr := 0) (by decide) (by decide) false (cap := vc) hrow3 (fun k hk e => by have := HG.out.2; omega)
    rw [own_l rfl hbad, if_neg (by decide)] at P1
    have HP1 := hidden P1
    have HROW := hidden hrow3
    have HBAD := hidden hbad
    clear P1 hrow3 hbad
    go_wp2_with (at_builtin; refine Rg.wpList_app rfl _ _ _ rfl rfl rfl HRUN.out ?_; clear HRUN)
    go_wp2_with fail
    refine Calls.mono HP1.out ?_
    rintro e w4 ⟨rfl, ⟨F4, hc4, hF4⟩, hm4⟩
    have H4 := hidden (H3.out.step hm4 hc4 hF4)
    have HM4 := hidden (H3.out.cd.mine HM3.out hm4)
    clear hc4 hF4 hm4 HP1
    have hrow4 : Row w4 (some ⟨g, 0, none⟩) len0 z0 := by
      obtain ⟨a, c, e, hr, _⟩ := HM4.out.row
      cases e
      exact hl ▸ hr
    have P2 := pushX H4.out.cd (s := 0) (pr := 0) (by decide) (by decide) true (cap := vc) hrow4 (fun k hk e => by obtain ⟨cu, hcu, _⟩ := HM4.out.obj (k := g) rfl; have := hcu.lt; omega)
    rw [own_l rfl HBAD.out, if_neg (by decide)] at P2
    go_wp2_with fail
    refine Calls.mono P2 ?_
    rintro e w5 ⟨rfl, ⟨F5, hc5, hF5⟩, hm5⟩
    have H5 := hidden (H4.out.step hm5 hc5 hF5)
    have HM5 := hidden (H4.out.cd.mine HM4.out hm5)
    clear hc5 hF5 hm5 P2 hrow4
    obtain ⟨cur5, hcur5, hgb, hgs, hgc⟩ := HM5.out.block hl
    have HC5 : Hid (Has w5 g cur5 5 ∧ len0 ≤ cur5.size ∧ ∀ j, j < len0 → cur5[j]? = some (.int .u8 (z0.getD j 0))) := ⟨hcur5, hgs, hgc⟩
    clear hcur5 hgb hgs hgc
    go_wp2_with fail
    go_loopw [40] (fun d wr => ∃ (k : Nat), d = .int .i64 (k : Int) ∧ k ≤ len0 ∧ Hid ((∃ cur, Has wr g cur 5 ∧ len0 ≤ cur.size ∧ ∀ j, k ≤ j → j < len0 → cur[j]? = some (.int .u8 (z0.getD j 0))) ∧ Sq.Cd (fun k => k ≠ g) wr t B0 F5 ∧ Below w.heap.size w wr ∧ ∀ k, F5 k → w.heap.size ≤ k)) (fun d wr => len0 - (intOf d).toNat)
    case atStart => exact ⟨0, rfl, Nat.zero_le _, ⟨⟨cur5, HC5.out.1, HC5.out.2.1, fun j _ hj => HC5.out.2.2 j hj⟩, H5.out.cd, H5.out.bl, H5.out.fb⟩⟩
    case round =>
    obtain ⟨k, rfl, hk, HI⟩ := hrel
    rcases Nat.lt_or_ge k len0 with hklt | hkge
    · have hlt : (k : Int) < (len0 : Int) := by omega
      obtain ⟨⟨cur, hcu, hsz, hcc⟩, hcd, hbl, hfb⟩ := HI.out
      have hbyte := HR0.out.2.1 (z0.getD k 0) (by rw [List.getD_eq_getElem?_getD, List.getElem?_eq_getElem (by omega)]; exact List.getElem_mem ..)
      have c1 := hcu.cell k (hcc k (Nat.le_refl _) hklt)
      have f1 := hcu.frozen k
      obtain ⟨db, doff, hda, hdc⟩ := (HR0.out.later hbl).2.2.2.resolve_left (by omega)
      subst hda
      have c2 := hdc k hklt
      generalize z0.getD k 0 = zz at *
      have hw3 : IntKind.i64.wrap ((k : Int) + 1) = (k : Int) + 1 := by rw [IntKind.wrap_i64]; have := HR0.out.2.2.1; omega
      clear hcu hsz hcc hcd hbl hfb hdc
      go_wp2_with fail
      go_quiet (fail)
      obtain ⟨w6, hw6, hh6⟩ : ∃ w6, wr.drewN nq = w6 ∧ Hid (w6.heap = wr.heap ∧ Below wr.heap.size wr w6) := ⟨_, rfl, rfl, ⟨rfl, rfl, rfl, Nat.le_refl _, fun _ _ => rfl⟩⟩
      have d1 : w6.cell? ⟨g, k, none⟩ = some (.int .u8 zz) := by rw [← hw6]; exact c1
      have e1 : w6.frozen? ⟨g, k, none⟩ = false := by rw [← hw6]; exact f1
      rw [hw6]
      clear hw6 c1 f1 c2
      go_wp2
      go_roundw
      case rel =>
        obtain ⟨⟨cur, hcu, hsz, hcc⟩, hcd, hbl, hfb⟩ := HI.out
        have hcu6 : Has w6 g cur 5 := by unfold Has; rw [hh6.out.1]; exact hcu
        refine ⟨k + 1, by simp, by omega, ⟨⟨_, hcu6.set k _, by simpa using hsz, fun j hj hjl => ?_⟩, (hcd.same hh6.out.1).bytes hcu6 (fun h => h rfl) (Mod.setCell (F := fun k => k = g) w6 (p := ⟨g, k, none⟩) rfl _), (hbl.trans (hh6.out.2.mono hbl.size)).setCell (p := ⟨g, k, none⟩) HG.out.1 _, hfb⟩⟩
        rw [Array.getElem?_setIfInBounds, if_neg (by omega)]
        exact hcc j (by omega) hjl
      case measure => simp only [intOf]; omega
    · have hnlt : ¬ ((k : Int) < (len0 : Int)) := by omega
      by_cases h0 : len0 = 0
      · subst h0
        go_wp2
        go_ret
        exact ⟨rfl, HI.out.2.2.1⟩
      · have hbig : (65536 : Int) < (len0 : Int) := by have := HBAD.out; omega
        have hn0 : ¬ len0 = 0 := h0
        go_wp2
        go_ret
        exact ⟨rfl, HI.out.2.2.1⟩
  · have hb1 : ¬ z0.length < 1 := fun h => hbad (.inl h)
    have hb2 : ¬ 65536 < z0.length := fun h => hbad (.inr h)
    obtain ⟨q1, q2⟩ := own_p hb1 hb2
    have P1 := pushK H3.out.cd (s := 0) (pr := 0) (by decide) (by decide) false (cap := vc) hrow3 (fun k hk e => by have := HG.out.2; omega) q1
    have HP1 := hidden P1
    have HBN := hidden (And.intro hb1 hb2)
    have HQ2 := hidden q2
    clear P1 hrow3 hbad q1 q2 hb1 hb2
    go_wp2_with (at_builtin; refine Rg.wpList_app rfl _ _ _ rfl rfl rfl HRUN.out ?_; clear HRUN)
    go_wp2_with fail
    refine Calls.mono HP1.out ?_
    rintro e w4 ⟨rfl, ⟨F4, hc4, hF4⟩, hm4⟩
    have H4 : Hid (Sq.Sys (fun k => k ≠ g) w w4 t (B1 z0) F4 []) := H3.out.step hm4 hc4 hF4
    have HM4 := hidden (H3.out.cd.mine HM3.out hm4)
    clear hc4 hF4 hm4 HP1
    have hrow4 : Row w4 (some ⟨g, 0, none⟩) len0 z0 := by
      obtain ⟨a, c, e, hr, _⟩ := HM4.out.row
      cases e
      exact hl ▸ hr
    have P2 := pushK H4.out.cd (s := 0) (pr := 0) (by decide) (by decide) true (cap := vc) hrow4 (fun k hk e => by obtain ⟨cu, hcu, _⟩ := HM4.out.obj (k := g) rfl; have := hcu.lt; omega) HQ2.out
    go_wp2_with fail
    refine Calls.mono P2 ?_
    rintro e w5 ⟨rfl, ⟨F5, hc5, hF5⟩, hm5⟩
    have H5 : Hid (Sq.Sys (fun k => k ≠ g) w w5 t (B2 z0) F5 []) := H4.out.step hm5 hc5 hF5
    have HM5 := hidden (H4.out.cd.mine HM4.out hm5)
    clear hc5 hF5 hm5 P2 hrow4
    obtain ⟨cur5, hcur5, hgb, hgs, hgc⟩ := HM5.out.block hl
    have HC5 : Hid (Has w5 g cur5 5 ∧ len0 ≤ cur5.size ∧ ∀ j, j < len0 → cur5[j]? = some (.int .u8 (z0.getD j 0))) := ⟨hcur5, hgs, hgc⟩
    clear hcur5 hgb hgs hgc
    go_wp2_with fail
    go_loopw [40] (fun d wr => ∃ (k : Nat), d = .int .i64 (k : Int) ∧ k ≤ len0 ∧ Hid ((∃ cur, Has wr g cur 5 ∧ len0 ≤ cur.size ∧ ∀ j, k ≤ j → j < len0 → cur[j]? = some (.int .u8 (z0.getD j 0))) ∧ Sq.Cd (fun k => k ≠ g) wr t (B2 z0) F5 ∧ Below w.heap.size w wr ∧ ∀ k, F5 k → w.heap.size ≤ k)) (fun d wr => len0 - (intOf d).toNat)
    case atStart => exact ⟨0, rfl, Nat.zero_le _, ⟨⟨cur5, HC5.out.1, HC5.out.2.1, fun j _ hj => HC5.out.2.2 j hj⟩, H5.out.cd, H5.out.bl, H5.out.fb⟩⟩
    case round =>
    obtain ⟨k, rfl, hk, HI⟩ := hrel
    rcases Nat.lt_or_ge k len0 with hklt | hkge
    · have hlt : (k : Int) < (len0 : Int) := by omega
      obtain ⟨⟨cur, hcu, hsz, hcc⟩, hcd, hbl, hfb⟩ := HI.out
      have hbyte := HR0.out.2.1 (z0.getD k 0) (by rw [List.getD_eq_getElem?_getD, List.getElem?_eq_getElem (by omega)]; exact List.getElem_mem ..)
      have c1 := hcu.cell k (hcc k (Nat.le_refl _) hklt)
      have f1 := hcu.frozen k
      obtain ⟨db, doff, hda, hdc⟩ := (HR0.out.later hbl).2.2.2.resolve_left (by omega)
      subst hda
      have c2 := hdc k hklt
      generalize z0.getD k 0 = zz at *
      have hw3 : IntKind.i64.wrap ((k : Int) + 1) = (k : Int) + 1 := by rw [IntKind.wrap_i64]; have := HR0.out.2.2.1; omega
      clear hcu hsz hcc hcd hbl hfb hdc
      go_wp2_with fail
      go_quiet (fail)
      obtain ⟨w6, hw6, hh6⟩ : ∃ w6, wr.drewN nq = w6 ∧ Hid (w6.heap = wr.heap ∧ Below wr.heap.size wr w6) := ⟨_, rfl, rfl, ⟨rfl, rfl, rfl, Nat.le_refl _, fun _ _ => rfl⟩⟩
      have d1 : w6.cell? ⟨g, k, none⟩ = some (.int .u8 zz) := by rw [← hw6]; exact c1
      have e1 : w6.frozen? ⟨g, k, none⟩ = false := by rw [← hw6]; exact f1
      rw [hw6]
      clear hw6 c1 f1 c2
      go_wp2
      go_roundw
      case rel =>
        obtain ⟨⟨cur, hcu, hsz, hcc⟩, hcd, hbl, hfb⟩ := HI.out
        have hcu6 : Has w6 g cur 5 := by unfold Has; rw [hh6.out.1]; exact hcu
        refine ⟨k + 1, by simp, by omega, ⟨⟨_, hcu6.set k _, by simpa using hsz, fun j hj hjl => ?_⟩, (hcd.same hh6.out.1).bytes hcu6 (fun h => h rfl) (Mod.setCell (F := fun k => k = g) w6 (p := ⟨g, k, none⟩) rfl _), (hbl.trans (hh6.out.2.mono hbl.size)).setCell (p := ⟨g, k, none⟩) HG.out.1 _, hfb⟩⟩
        rw [Array.getElem?_setIfInBounds, if_neg (by omega)]
        exact hcc j (by omega) hjl
      case measure => simp only [intOf]; omega
    · have hnlt : ¬ ((k : Int) < (len0 : Int)) := by omega
      obtain ⟨wo, hwo⟩ : ∃ x, x = wr := ⟨_, rfl⟩
      subst hwo
      have hn0 : ¬ len0 = 0 := by have := HBN.out.1; omega
      have hbig : ¬ ((65536 : Int) < (len0 : Int)) := by have := HBN.out.2; omega
      have TA := takK ((HI.out.2.1).named (D' := fun k => k < wo.heap.size) (fun k cur _ hh => hh.lt)) (own_t1 HBN.out.1)
      rw [hl] at TA
      have HTA := hidden TA
      clear TA
      go_wp2_with fail
      refine Calls.mono HTA.out ?_
      rintro e w7 ⟨x, rfl, hx, ⟨F7, hc7, hF7⟩, hm7⟩
      obtain ⟨⟨_, _⟩, hcdr, hblr, hfbr⟩ := HI.out
      have hmin := hx
      obtain ⟨xa0, xc, hxe, hxr, _, hxn⟩ := hx.row
      obtain ⟨xa, hxa⟩ : ∃ xa, xa0 = some xa := by
        cases xa0 with
        | none => have := (hxn rfl).1; have := HBN.out.1; omega
        | some xa => exact ⟨xa, rfl⟩
      have hgx : ∃ gx, xa = ⟨gx, 0, none⟩ := by
        rcases hx.1.2 with ⟨e, _⟩ | ⟨gx, cap, cur, e, _⟩
        · rw [hxe, hxa] at e; cases e
        · rw [hxe, hxa] at e; cases e; exact ⟨gx, rfl⟩
      obtain ⟨gx, rfl⟩ := hgx
      subst hxa
      rw [hl] at hxe
      subst hxe
      have hbl7 : Below w.heap.size w w7 := hblr.trans (hm7.below hblr.size hfbr)
      obtain ⟨w8, hw8⟩ : ∃ w8, w8 = w7.alloc (.cells #[.int .u16 0, .int .u16 0, .int .u32 0, .bool false, .slice (some ⟨gx, 0, none⟩) len0 xc, .bool true, .bool true] 44) := ⟨_, rfl⟩
      have H8 : Hid (Sq.Sys (fun k => k < wo.heap.size) w w8 t (B3 z0) F7 [(w7.heap.size, #[.int .u16 0, .int .u16 0, .int .u32 0, .bool false, .slice (some ⟨gx, 0, none⟩) len0 xc, .bool true, .bool true], 44)]) := by
        rw [hw8]
        exact Sys.alloc (Sys.start hc7 (fun k hk => hfbr k (hF7 k hk)) hbl7) _ _
      have hB8 : Below w7.heap.size w7 w8 := by rw [hw8]; exact (Below.refl _ w7).alloc (Nat.le_refl _) _
      have hm8 := hmin.later hB8
      have cv8 : (convert 34 9 (.slice (some ⟨gx, 0, none⟩) len0 xc)).run Try.prog w8 = .ok (.string (strOfNums z0)) w8 := by
        obtain ⟨a, c, e, hr, _⟩ := hm8.row
        cases e
        rw [← hl]
        exact hr.conv xc
      obtain ⟨cur8, k1, k2, k3, _⟩ := hm8.block hl
      have HX : Hid (Has w8 gx cur8 5 ∧ wo.heap.size ≤ gx ∧ len0 ≤ cur8.size) := ⟨k1, k2, k3⟩
      have bx4 := (H8.out.has (.head _)).cell 4 rfl
      have HW8 := hidden hw8
      obtain ⟨ss, hss⟩ : ∃ ss, ss = strOfNums z0 := ⟨_, rfl⟩
      rw [← hss] at cv8
      have HSS := hidden hss
      clear hx hc7 hF7 hm7 hmin hxr hxn hbl7 hw8 hB8 hm8 k1 k2 k3 hcdr hblr hfbr hss HTA
      unfold pcv
      go_upto_region 16 with fail
      rw [← HW8.out]
      go_wp2_with fail
      go_loopw [90] (fun d wx => ∃ (k : Nat), d = .int .i64 (k : Int) ∧ k ≤ len0 ∧ Hid ((∃ cur, Has wx gx cur 5 ∧ len0 ≤ cur.size) ∧ Sq.Sys (fun k => k < wo.heap.size) w wx t (B3 z0) F7 [(w7.heap.size, #[.int .u16 0, .int .u16 0, .int .u32 0, .bool false, .slice (some ⟨gx, 0, none⟩) len0 xc, .bool true, .bool true], 44)])) (fun d wx => len0 - (intOf d).toNat)
      case atStart => exact ⟨0, rfl, Nat.zero_le _, ⟨⟨cur8, HX.out.1, HX.out.2.2⟩, H8.out⟩⟩
      case round =>
      obtain ⟨k, rfl, hk, HI2⟩ := hrel
      rcases Nat.lt_or_ge k len0 with hklt | hkge
      · have hlt2 : (k : Int) < (len0 : Int) := by omega
        obtain ⟨⟨cur, hcu, hsz⟩, hsys⟩ := HI2.out
        have b4 := (hsys.has (.head _)).cell 4 rfl
        obtain ⟨u, c1⟩ : ∃ u, wr.cell? ⟨gx, k, none⟩ = some u := ⟨_, hcu.cell k (Array.getElem?_eq_getElem (by omega))⟩
        have f1 := hcu.frozen k
        have hw3 : IntKind.i64.wrap ((k : Int) + 1) = (k : Int) + 1 := by rw [IntKind.wrap_i64]; have := HR0.out.2.2.1; omega
        clear hcu hsz hsys
        go_wp2
        go_roundw
        case rel =>
          obtain ⟨⟨cur, hcu, hsz⟩, hsys⟩ := HI2.out
          have hgx := HX.out.2.1
          refine ⟨k + 1, by simp, by omega, ⟨⟨_, hcu.set k _, by simpa using hsz⟩, ⟨hsys.cd.bytes hcu (fun h => by omega) (Mod.setCell (F := fun k => k = gx) wr (p := ⟨gx, k, none⟩) rfl _), hsys.fb, hsys.bl.setCell (p := ⟨gx, k, none⟩) (Nat.le_trans (HI.out.2.2.1).size hgx) _, fun x hx => ⟨(hsys.hs x hx).1, ?_, (hsys.hs x hx).2.2⟩⟩⟩⟩
          rw [List.mem_singleton] at hx
          subst hx
          have hb := hsys.has (.head _)
          exact hb.set_other (p := ⟨gx, k, none⟩) (fun e => by subst e; exact hb.ne hcu (by decide) rfl) _
        case measure => simp only [intOf]; omega
      · have hnlt2 : ¬ ((k : Int) < (len0 : Int)) := by omega
        have TB := takK HI2.out.2.cd (own_t2 HBN.out.1)
        rw [hl] at TB
        have HTB := hidden TB
        clear TB
        go_wp2_with fail
        refine Calls.mono HTB.out ?_
        rintro e w9 ⟨y, rfl, hy, ⟨F9, hc9, hF9⟩, hm9⟩
        obtain ⟨ya, yc, hye, _⟩ := hy.row
        rw [hl] at hye
        subst hye
        have hsys := HI2.out.2
        have hbl9 := hsys.bl.trans (hm9.below hsys.bl.size hsys.fb)
        obtain ⟨w10, hw10⟩ : ∃ w10, w10 = w9.alloc (.cells #[.int .u16 0, .int .u16 0, .int .u32 0, .bool true, .slice ya len0 yc, .bool true, .bool true] 44) := ⟨_, rfl⟩
        have hB10 : Below w9.heap.size w9 w10 := by rw [hw10]; exact (Below.refl _ w9).alloc (Nat.le_refl _) _
        have hbx10 : Has w10 w9.heap.size #[.int .u16 0, .int .u16 0, .int .u32 0, .bool true, .slice ya len0 yc, .bool true, .bool true] 44 := by rw [hw10]; exact Has.new _ _ _
        have hall := hbl9.trans (hB10.mono hbl9.size)
        have o4 := hbx10.cell 4 rfl
        have cvA : (convert 34 9 (.slice a0 len0 cap0)).run Try.prog w10 = .ok (.string ss) w10 := by
          rw [HSS.out]
          exact (HR0.out.later hall).conv cap0
        have cvB : (convert 34 9 (.slice ya len0 yc)).run Try.prog w10 = .ok (.string ss) w10 := by
          obtain ⟨a, c, e, hr, _⟩ := (hy.later hB10).row
          cases e
          rw [HSS.out]
          have := hr.conv yc
          rw [hl] at this
          exact this
        have HW10 := hidden hw10
        have HALL := hidden hall
        clear hy hc9 hF9 hm9 hbl9 hw10 hB10 hbx10 hall hsys HTB
        unfold pcv
        go_upto_region 23 with fail
        rw [← HW10.out]
        go_wp2
        go_ret
        exact ⟨by simp, HALL.out⟩

theorem contract (H : Type) (enc : TypeId × Value → H) (W : World) (base : Nat) (args : Array Value) (ds gs : List (DataW H)) (before : List MemPlace)
    (hval : ∀ (j : Nat) t v, Try.f8.params[j]? = some t → args[j]? = some v → Value.okWide Try.prog W .any base t v)
    (hW : DataW.Whole enc Try.prog Try.f8.params.toList Rows.streamsOwnSpec.vars false W args.toList ds gs before)
    (hsz0 : (DataW.weightsEach Try.prog (Try.f8.params.toList ++ Rows.streamsOwnSpec.plain.varTypes Try.prog) (ds ++ gs)).all (· ≤ reachBytes) = true) :
    Calls Try.prog 8 args W fun e W' => ∃ v, e = .returned v ∧ Rows.streamsOwnSpec.post enc Try.prog Try.f8 false true false false W args v W' := by
  have hW' := hW
  obtain ⟨p, q, hA0, hV, rfl, hfz, hnd⟩ := hW
  have hA : DataW.TrodAll enc Try.prog W 0 (fun _ => true) true Try.f8.params.toList args.toList ds p := hA0
  have hsz := hsz0
  rw [Try.params8] at hA hval hsz
  obtain ⟨v0, vs0, d0, ds0, p0, q0, hargs, rfl, rfl, h0, r0⟩ := trodAll_cons hA
  obtain ⟨rfl, rfl, rfl⟩ := trodAll_nil r0
  obtain rfl : args = #[v0] := by cases args; simp_all
  obtain ⟨rfl, rfl⟩ := trodVars_none hV
  obtain ⟨a0, len0, cap0, rfl⟩ := okWide_slice Try.underlying34 (hval 0 34 v0 rfl rfl)
  have k0 := h0
  have lt0 : ∀ x ∈ p0, x.block < W.heap.size := by obtain ⟨m, hm⟩ := k0; exact DataW.trod_lt m _ _ _ hm
  have sz0 : (d0.weights Try.prog 34).all (· ≤ reachBytes) = true := List.all_eq_true.2 fun m hm => List.all_eq_true.1 hsz m (DataW.weights_mem_each (j := 0) rfl rfl m hm)
  obtain ⟨z0, w0, s0⟩ : ∃ z0, Sq.Row W a0 len0 z0 ∧ len0 ≤ cap0 ∧ cap0 ≤ 140737488351232 ∧ (a0 = none → len0 = 0 ∧ cap0 = 0) := by
    obtain ⟨fuel, hf⟩ := h0
    exact Sq.row_arg hf sz0
  clear hA0 hsz0 hsz
  refine (walk a0 len0 cap0 z0 W w0 s0).mono fun e W' ⟨he, bel⟩ => ?_
  subst he
  exact ⟨_, rfl, _, _, _, [], _, [], hW', trodAll_mk1 (shut_bool Try.underlying4 _), (trodAll_cons_mk (Below.trod laidOut (by kernel_rfl) (of_decide_eq_true (by kernel_rfl)) k0 bel lt0) trodAll_mk0), rfl, bel.frame _, fun h => by cases h⟩

noncomputable def laidWorld (os : Os) : World :=
  World.holding Try.prog os ⟨#[], #[], []⟩
theorem laid_met (os : Os) : laidMet Try.prog Rows.streamsOwnRow.laid ((laidWorld os).forCall (fun _ _ => 0) ⟨#[], #[.slice none 0 0], []⟩).memory :=
  laidMet_of_run' 8 (by kernel_rfl) (by kernel_rfl)
theorem reads (os : Os) {H : Type} (enc : TypeId × Value → H) : ∃ places, DataW.whole enc Try.prog ((laidWorld os).forCall (fun _ _ => 0) ⟨#[], #[.slice none 0 0], []⟩).memory Try.f8.params.toList Rows.streamsOwnSpec.vars false #[Value.slice none 0 0].toList 8 = some ([.nil], [], places) :=
  ⟨[], by kernel_rfl⟩

set_option maxRecDepth 100000 in
theorem lifted (os : Os) (started : os.Started) (H : Type) (enc : TypeId × Value → H) (F : Stop.Interp) :
    ReturnsInHanded {} Try.checked os 8 .any ((OpenSpec.ofChange Rows.streamsOwnSpec).preRow enc Try.prog Try.f8 Rows.streamsOwnRow.domain false Rows.streamsOwnRow.laid) (((OpenSpec.ofChange Rows.streamsOwnSpec).at F).post enc Try.prog Try.f8 false true false false) := by
  obtain ⟨places, hx⟩ := reads os enc
  refine returnsInHanded_of_row (C := Try.checked) (s := OpenSpec.ofChange Rows.streamsOwnSpec) own started (by kernel_rfl) Try.func8
    (witness_row_at (enc := enc) (C := Try.checked) false (laidWorld os) #[.slice none 0 0] rfl (by kernel_rfl) (by kernel_rfl) (by kernel_rfl)
      (OpenSpec.preRow_of_cond 8 hx (by kernel_rfl) (fun k hk => by cases hk) (by kernel_rfl) (laid_met os))) ?_
  intro W base args ds gs before hval hW _ hcond hsz hL _ _
  exact contract H enc W base args ds gs before hval hW hsz

theorem said : Rows.StreamsOwnSaid :=
  OpenClaim.holds_of_cond 8 Try.f8 rfl rfl rfl rfl rfl rfl rfl ⟨rfl, rfl, rfl, rfl, rfl⟩ rfl rfl rfl rfl rfl (by kernel_rfl) Try.func8 (by kernel_rfl)
    (of_decide_eq_true (by kernel_rfl)) (by unfold Func.isWrapper; first | (rw [if_pos (by decide +kernel)]; kernel_rfl) | (rw [if_neg (by decide +kernel)]; exact ⟨rfl, rfl⟩))
    (fun os started H enc _ F => by rw [OpenClaim.pre_eq_preRow]; exact lifted os started H enc F)

/-- THE STATEMENT -/
theorem proved : Rows.StreamsOwnSaid := said
#print axioms proved
end Go.Proofs.Ytfgoamfoddkafaa.streamsOwn
