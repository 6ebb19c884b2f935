/-
  The document's Send and Forge, where a packet is taken.
  Conditions: the network lies in memory; the bytes lie in memory.
-/
import Derived.Test.YtmogacccffkkbaaNtP
namespace Go.Proofs.Ytmogacccffkkbaa.Nt
open Go.ChangeShapes Go.WideShapes Go.ChangeAt Go.RowKit
open Ba (hidden Only In Has own_ne own_stay own_len own_some own_mono cell_lt heap_lt)
set_option linter.unusedVariables false
section
variable {base : Nat} {w w' w1 : World} {r : Nat} {rv ov : Value} {rb : Nat → Nat} {vs : Nat → Nat → Value} {X : Nat → Nat → List Pq} {S : St} {i e : Nat}
/-- all that is read, where a packet is taken -/
theorem rput_pre_s (h : Ro base w r rv ov rb vs X S) (hI : Inv S) (hn : S.next ≤ 1000) {en path now : Int} {bs : List Int} {n : Nat} (hnb : bs.length = n) (hE : laE S en path now bs.length = 0) :
    ∃ g cap gr a ln c go oc x l, (w.cell? ⟨r, 0, none⟩ = some (.slice (some ⟨g, 0, none⟩) S.p cap) ∧ w.cell? ⟨g, path.toNat, none⟩ = some (.slice (some ⟨gr, 0, none⟩) 2 2) ∧ w.cell? ⟨gr, en.toNat * 5, none⟩ = some (.slice a ln c) ∧ w.cell? ⟨gr, en.toNat * 5 + 1, none⟩ = some (.int .i64 x) ∧ w.cell? ⟨gr, en.toNat * 5 + 3, none⟩ = some (.int .i64 l) ∧ w.cell? ⟨r, 1, none⟩ = some (.slice (some ⟨go, 0, none⟩) S.p oc) ∧ w.cell? ⟨go, path.toNat, none⟩ = some (.bool (S.off path.toNat)) ∧ w.cell? ⟨r, 2, none⟩ = some (.int .i64 S.next)) ∧
      (w.frozen? ⟨r, 2, none⟩ = false ∧ (∀ k, w.frozen? ⟨gr, k, none⟩ = false) ∧ r ≠ gr ∧ r ≠ g ∧ r ≠ go ∧ gr ≠ g ∧ gr ≠ go) ∧ (ln ≤ 1000 ∧ 0 ≤ x ∧ x ≤ 1000 ∧ 0 ≤ l ∧ l ≤ 1000 ∧ gr = rb path.toNat ∧ vs path.toNat en.toNat = .slice a ln c) ∧
      (∀ W1, W1 = (w.setCell ⟨r, 2, none⟩ (.int .i64 (S.next + 1))).setCell ⟨gr, en.toNat * 5 + 1, none⟩ (.int .i64 (x + 1)) → ∃ S1 : St, S1 = ⟨S.p, S.next + 1, up2 S.R path.toNat en.toNat ⟨bump false (S.R path.toNat en.toNat).T, (S.R path.toNat en.toNat).L⟩, S.off⟩ ∧ Ro base W1 r rv ov rb vs X S1 ∧ Kept (fun t => t == 40 || t == 105) base w W1 ∧ Ro base (W1.setCell ⟨gr, en.toNat * 5 + 3, none⟩ (.int .i64 (l + 1))) r rv ov rb vs X (S1.row path.toNat en.toNat ⟨drT (S1.R path.toNat en.toNat).T, (S1.R path.toNat en.toNat).L⟩) ∧ Kept TYr base W1 (W1.setCell ⟨gr, en.toNat * 5 + 3, none⟩ (.int .i64 (l + 1)))) := by
  obtain ⟨hp, _, _⟩ := laE_zero hE
  obtain ⟨⟨h1, h2⟩, h3, h4⟩ := ok_iff.1 hp
  have hi : path.toNat < S.p := by omega
  have he : en.toNat < 2 := by omega
  obtain ⟨g, cap, gr, ln, a, c, c0, c1, hgr, l1, l2, l3, hvs, hnn, d0, d1, d2, d3, d4, hf⟩ := h.at hp
  obtain ⟨go, oc, hov, o1, o2, _, _⟩ := h.cutAt hi
  have hr := hI.rows path.toNat en.toNat
  have := hr.s; have := hr.d; have := hr.l; have := hr.f; have := hr.sum; have := hr.few; have := hr.len
  obtain ⟨cs, hcs⟩ := (h.row _ hi).has
  rw [← hgr] at hcs
  have hrows := h.rows
  have hoffs := h.offs
  obtain ⟨g0, cap0, hv0, c00, _⟩ := h.place hi
  rw [c00] at c0
  cases c0
  rw [hv0] at hrows
  rw [hov] at hoffs
  refine ⟨g, cap, gr, a, ln, c, go, oc, _, _, ⟨c00, c1, d0, d1, d3, o1, o2, h.net.cell 2 rfl⟩, ⟨h.net.frozen 2, hf, h.net.ne hcs (by decide), fun ee => own_ne hrows h.net (by decide) g rfl ee, fun ee => own_ne hoffs h.net (by decide) go rfl ee, fun ee => own_ne hrows hcs (by decide) g rfl ee, fun ee => own_ne hoffs hcs (by decide) go rfl ee⟩, ⟨by omega, by omega, by omega, by omega, by omega, hgr, hvs⟩, fun W1 hW1 => ?_⟩
  have hA := h.setNext (S.next + 1)
  have hcsA : Has (w.setCell ⟨r, 2, none⟩ (.int .i64 (S.next + 1))) gr cs 105 := hcs.set_other (p := ⟨r, 2, none⟩) (hcs.ne h.net (by decide)) _
  have hB := hA.setT (i := path.toNat) (e := en.toNat) hi he (k := 1) (by decide) (u := .int .i64 ((S.R path.toNat en.toNat).T.s + 1)) (T' := bump false (S.R path.toNat en.toNat).T) rfl
  rw [← hgr, ← hW1] at hB
  have hcs1 : Has W1 gr (cs.setIfInBounds (en.toNat * 5 + 1) (.int .i64 ((S.R path.toNat en.toNat).T.s + 1))) 105 := by rw [hW1]; exact hcsA.set _ _
  have hbgr : base ≤ gr := by rw [hgr]; exact h.rbb _ hi
  refine ⟨_, rfl, hB, ?_, ?_, (Kept.refl _ _ _).set (p := ⟨gr, _, none⟩) hcs1 rfl hbgr _⟩
  · rw [hW1]
    exact ((Kept.refl _ _ _).set (p := ⟨r, 2, none⟩) h.net rfl h.br _).set (p := ⟨gr, _, none⟩) hcsA rfl hbgr _
  · have hC := hB.setT (i := path.toNat) (e := en.toNat) hi he (k := 3) (by decide) (u := .int .i64 ((S.R path.toNat en.toNat).T.l + 1)) (T' := drT (bump false (S.R path.toNat en.toNat).T)) (by simp only [St.row, up2_same]; rfl)
    rw [← hgr] at hC
    have er : (up2 S.R path.toNat en.toNat ⟨bump false (S.R path.toNat en.toNat).T, (S.R path.toNat en.toNat).L⟩) path.toNat en.toNat = ⟨bump false (S.R path.toNat en.toNat).T, (S.R path.toNat en.toNat).L⟩ := up2_same _ _ _ _
    simp only [er]
    simp only [St.row, up2_same] at hC
    exact hC
set_option maxHeartbeats 4000000 in
set_option maxRecDepth 20000 in
theorem rput_ok_s (h : Ro base w r rv ov rb vs X S) (hI : Inv S) (hn : S.next ≤ 1000) (hbase : base ≤ w.heap.size) (en path now : Int) {a : Option Addr} {n cap : Nat} {bs : List Int} (hb : By base w a n bs) (hnil : a = none → cap = 0) (hE : laE S en path now bs.length = 0) :
    Calls Try.prog 47 #[.pointer (some ⟨r, 0, none⟩), .int .i64 en, .int .i64 path, .slice a n cap, .int .i64 now, .bool false] w fun e' w' => RlO base w r S en path now bs false e' w' := by
  have HS := hidden (rHas h hI.p en path)
  obtain ⟨hp, hnow, hlen⟩ := laE_zero hE
  rw [hp] at HS
  have hnb : bs.length = n := hb.1
  obtain ⟨⟨h1, h2⟩, h3, h4⟩ := ok_iff.1 hp
  obtain ⟨g, rcap, gr, va, ln, vcap, go, oc, xx, l, ⟨c0, c1, d0, dx, d3, o1, o2, cn⟩, ⟨fr, hf, n1, n2, n3, n4, n5⟩, ⟨b1, b2, b3, b4, b5, hgr, hvs⟩, FN⟩ := rput_pre_s h hI hn hnb hE
  obtain ⟨W1, hW1⟩ : ∃ W1, W1 = (w.setCell ⟨r, 2, none⟩ (.int .i64 (S.next + 1))).setCell ⟨gr, en.toNat * 5 + 1, none⟩ (.int .i64 (xx + 1)) := ⟨_, rfl⟩
  obtain ⟨S1, hS1, hR1, hK1, hR2, hK2⟩ := FN W1 hW1
  have hK1' : Kept TYr base w W1 := hK1.mono (fun t ht => by unfold TYr at ht; revert ht; cases t == 40 <;> cases t == 105 <;> simp)
  have hnx := hI.next
  have f1 := hf (en.toNat * 5 + 1)
  have f3 := hf (en.toNat * 5 + 3)
  have hp8 := hI.p
  have hI0 : Hid (laI S en path now bs.length = S.next) := by unfold Hid laI; rw [hE]; rfl
  cases ho : S.off path.toNat with
  | true =>
    have FIN : Hid (RlO base w r S en path now bs false (.returned (.tuple #[.int .i64 S.next, .int .i64 0])) (W1.setCell ⟨gr, en.toNat * 5 + 3, none⟩ (.int .i64 (l + 1)))) := by
      refine ⟨by rw [hI0.out, hE], ⟨rv, ov, rb, vs, X, ?_⟩, hK1'.trans hK2⟩
      unfold laS
      rw [if_pos hE]
      unfold putS putR cnt St.row
      simp only [ho, up2_same, up2_up2]
      rw [hS1] at hR2
      unfold St.row at hR2
      simp only [up2_same, up2_up2] at hR2
      exact hR2
    rw [ho] at o2
    rw [hW1] at FIN
    clear h hp hb FN hR1 hK1 hR2 hK2 hK1' hgr hvs hE hS1 hW1 hf hI0 hI
    go_enter Try.func47, Try.ntmps47
    go_wp2_with fail
    refine Calls.mono HS.out ?_
    rintro e w' ⟨rfl, rfl⟩
    go_wp2
    go_ret2
    exact FIN.out
  | false =>
    have FIN : Hid (∀ w2, Ros base W1 r (S1.row path.toNat en.toNat ⟨(S1.R path.toNat en.toNat).T, (S1.R path.toNat en.toNat).L ++ [⟨S.next, now, n, false, bs⟩]⟩) w2 → RlO base w r S en path now bs false (.returned (.tuple #[.int .i64 S.next, .int .i64 0])) w2) := fun w2 hR => by
      obtain ⟨hR, hK⟩ := hR
      refine ⟨by rw [hI0.out, hE], ?_, hK1'.trans hK⟩
      unfold laS
      rw [if_pos hE]
      unfold putS putR cnt St.row
      simp only [ho, up2_same, up2_up2]
      rw [hS1] at hR
      unfold St.row at hR
      simp only [up2_same, up2_up2] at hR
      rw [hnb]
      exact hR
    rw [ho] at o2
    have HBY : Hid (By base W1 a n bs) := hb.stay hK1 rfl
    have HNIL := hidden hnil
    have HBS : Hid (base ≤ W1.heap.size) := Nat.le_trans hbase hK1.size
    have HL6 : Hid (n ≤ 65536) := by rw [← hnb]; exact hlen
    have HRO := hidden hR1
    have HLL : Hid ((X path.toNat en.toNat).length ≤ 100000) := by
      rw [h.len]
      have := (hI.rows path.toNat en.toNat).len
      unfold Hid
      omega
    have HI : Hid (path.toNat < S1.p) := by rw [hS1]; show path.toNat < S.p; omega
    have HE : Hid (en.toNat < 2) := by unfold Hid; omega
    have HGE := hidden hgr
    have HV := hidden hvs
    have hgw : gr < w.heap.size := cell_lt d0
    have HGR : Hid (gr < W1.heap.size) := Nat.lt_of_lt_of_le hgw hK1.size
    have HC4 : Hid (W1.cell? ⟨gr, en.toNat * 5, none⟩ = some (.slice va ln vcap)) := by
      rw [hW1]
      have hq : (⟨gr, en.toNat * 5 + 1, none⟩ : Addr) ≠ ⟨gr, en.toNat * 5, none⟩ := fun hh => by injection hh with _ h2; omega
      have hq2 : (⟨r, 2, none⟩ : Addr) ≠ ⟨gr, en.toNat * 5, none⟩ := fun hh => by injection hh with h1; exact n1 h1
      unfold Hid
      rw [World.cell?_setCell_other _ _ _ _ hq, World.cell?_setCell_other _ _ _ _ hq2]
      exact d0
    have HW1 := hidden hW1
    obtain ⟨nx, hnx2⟩ : ∃ nx, nx = S.next := ⟨_, rfl⟩
    have HNX := hidden hnx2
    clear h hp hb FN hR1 hK1 hR2 hK2 hK1' hgr hvs hE hS1 hW1 hf hI0 hI hnx2
    go_enter Try.func47, Try.ntmps47
    go_wp2_with fail
    refine Calls.mono HS.out ?_
    rintro e w' ⟨rfl, rfl⟩
    go_upto_region 18 with fail
    rw [← HW1.out]
    rw [← HNX.out]
    refine Ord.wp_region_ex0 (X := Nat × Nat × Nat × Value) (by kernel_rfl) 112 (fun x => [(some 92, .pointer (some ⟨gr, en.toNat * 5, none⟩)), (some 93, .pointer (some ⟨gr, en.toNat * 5, none⟩)), (some 94, .pointer (some ⟨gr, en.toNat * 5, none⟩)), (some 95, .pointer (some ⟨gr, en.toNat * 5, none⟩)), (some 96, .slice va ln vcap), (some 97, .int .i64 nx), (some 98, .int .i64 now), (some 99, .slice a n cap), (some 100, .int .i64 (n : Int)), (some 101, .bool false), (some 102, .agg #[.int .i64 nx, .int .i64 now, .int .i64 (n : Int), .bool false]), (some 103, .slice (some ⟨W1.heap.size, 0, none⟩) 0 0), (some 104, .slice a n cap), (some 105, .slice (some ⟨x.1, 0, none⟩) n x.2.1), (some 106, .agg #[.int .i64 nx, .int .i64 now, .int .i64 (n : Int), .bool false, .slice (some ⟨x.1, 0, none⟩) n x.2.1]), (some 107, .slice (some ⟨x.2.2.1, 0, none⟩) 1 1), (some 108, x.2.2.2), (some 109, .pointer (some ⟨gr, en.toNat * 5, none⟩)), (some 110, .pointer (some ⟨gr, en.toNat * 5, none⟩)), (none, undef)]) [some 92, some 93, some 94, some 95, some 96, some 97, some 98, some 99, some 100, some 101, some 102, some 103, some 104, some 105, some 106, some 107, some 108, some 109, some 110, none] rfl (fun listed hsz hr => Ord.all_listedC (rank := [0, 1, 2, 3, 4, 5, 6, 7, 8, 9, 10, 11, 12, 13, 14, 15, 16, 17, 18, 19]) (by kernel_rfl) hsz hr) (by rfl) (fun _ => rfl) (by kernel_rfl) (Rg.StM [11, 13, 15, 16, 19] (fun k x w' => RpA base W1 r rv ov rb vs X S1 path.toNat en.toNat n (Pk.mk nx now n false bs) k x w')) (fun _ _ _ _ hL h => h.ext (n := 20) (by decide) hL) ?_ ?_ (0, 0, 0, undef) ?_
    case refine_1 =>
      intro x Lq iq oq ac w' ho hi hcl hdep hF hW
      have f1 : ac.tmps.size = 112 := hF.1
      match iq, ho, hi, hdep with
      | 0, ho, hi, hdep =>
        cases ho
        have da0 : ac.eval (.tmp 14) = .pointer (some ⟨gr, en.toNat * 5, none⟩) := hF.old 14 rfl
        exact Ord.ex_value x rfl rfl (Rg.mv da0 rfl) rfl (hW.keep (by decide))
      | 1, ho, hi, hdep =>
        cases ho
        have da0 : ac.eval (.tmp 14) = .pointer (some ⟨gr, en.toNat * 5, none⟩) := hF.old 14 rfl
        exact Ord.ex_value x rfl rfl (Rg.mv da0 rfl) rfl (hW.keep (by decide))
      | 2, ho, hi, hdep =>
        cases ho
        have da0 : ac.eval (.tmp 93) = .pointer (some ⟨gr, en.toNat * 5, none⟩) := hF.2.2.2 1 93 _ rfl (hdep ⟨1, .data⟩ (by simp) rfl)
        exact Ord.ex_value x rfl rfl (Rg.nilc da0 rfl) rfl (hW.keep (by decide))
      | 3, ho, hi, hdep =>
        cases ho
        have da0 : ac.eval (.tmp 94) = .pointer (some ⟨gr, en.toNat * 5, none⟩) := hF.2.2.2 2 94 _ rfl (hdep ⟨2, .data⟩ (by simp) rfl)
        exact Ord.ex_value x rfl rfl (Rg.fa da0 rfl (by simp [go_sem])) rfl (hW.keep (by decide))
      | 4, ho, hi, hdep =>
        cases ho
        have da0 : ac.eval (.tmp 95) = .pointer (some ⟨gr, en.toNat * 5, none⟩) := hF.2.2.2 3 95 _ rfl (hdep ⟨3, .data⟩ (by simp) rfl)
        obtain ⟨kq, hlo, hhi, hA⟩ := hW.range 0 3 (.inl rfl) (.inr ⟨16, rfl, (Rg.no_of (fun h => hcl 16 _ rfl (h) ⟨4, .data⟩ (by simp) rfl) hi)⟩)
        exact Ord.ex_value x rfl rfl (Rg.load da0 rfl (by have hc := ((hA.bel hhi).cell (p := ⟨gr, en.toNat * 5, none⟩) HGR.out).trans HC4.out; simp [go_sem, hc])) rfl (hW.keep (by decide))
      | 5, ho, hi, hdep =>
        cases ho
        have da0 : ac.eval (.tmp 15) = .int .i64 nx := hF.old 15 rfl
        exact Ord.ex_value x rfl rfl (Rg.mv da0 rfl) rfl (hW.keep (by decide))
      | 6, ho, hi, hdep =>
        cases ho
        have da0 : ac.eval (.tmp 4) = .int .i64 now := hF.old 4 rfl
        exact Ord.ex_value x rfl rfl (Rg.mv da0 rfl) rfl (hW.keep (by decide))
      | 7, ho, hi, hdep =>
        cases ho
        have da0 : ac.eval (.tmp 3) = .slice a n cap := hF.old 3 rfl
        exact Ord.ex_value x rfl rfl (Rg.mv da0 rfl) rfl (hW.keep (by decide))
      | 8, ho, hi, hdep =>
        cases ho
        have da0 : ac.eval (.tmp 99) = .slice a n cap := hF.2.2.2 7 99 _ rfl (hdep ⟨7, .data⟩ (by simp) rfl)
        exact Ord.ex_value x rfl rfl (Rg.len_ da0 rfl (by simp [go_sem])) rfl (hW.keep (by decide))
      | 9, ho, hi, hdep =>
        cases ho
        have da0 : ac.eval (.tmp 5) = .bool false := hF.old 5 rfl
        exact Ord.ex_value x rfl rfl (Rg.mv da0 rfl) rfl (hW.keep (by decide))
      | 10, ho, hi, hdep =>
        cases ho
        have da0 : ac.eval (.tmp 97) = .int .i64 nx := hF.2.2.2 5 97 _ rfl (hdep ⟨5, .data⟩ (by simp) rfl)
        have da1 : ac.eval (.tmp 98) = .int .i64 now := hF.2.2.2 6 98 _ rfl (hdep ⟨6, .data⟩ (by simp) rfl)
        have da2 : ac.eval (.tmp 100) = .int .i64 (n : Int) := hF.2.2.2 8 100 _ rfl (hdep ⟨8, .data⟩ (by simp) rfl)
        have da3 : ac.eval (.tmp 101) = .bool false := hF.2.2.2 9 101 _ rfl (hdep ⟨9, .data⟩ (by simp) rfl)
        exact Ord.ex_value x rfl rfl (Rg.bld rfl (by simp [da0, da1, da2, da3]) (run_flt _ _ _ _ _)) rfl (hW.keep (by decide))
      | 11, ho, hi, hdep =>
        cases ho
        have hA := hW.at (k := 0) rfl hi (.inl rfl)
        have hw := hA.h0 rfl
        subst hw
        exact Ord.ex_value x rfl rfl (Rg.bsl rfl (by simp) (run_bs0 _)) rfl (hW.next (k := 0) rfl (by decide) hi (.inl rfl) ⟨fun _ => hA.bel (by decide) |>.alloc (by simp) _, (fun e => absurd e (by decide)), fun _ => rfl, (fun e => absurd e (by decide)), (fun e => absurd e (by decide)), (fun e => absurd e (by decide)), (fun e => absurd e (by decide))⟩)
      | 12, ho, hi, hdep =>
        cases ho
        have da0 : ac.eval (.tmp 3) = .slice a n cap := hF.old 3 rfl
        exact Ord.ex_value x rfl rfl (Rg.mv da0 rfl) rfl (hW.keep (by decide))
      | 13, ho, hi, hdep =>
        cases ho
        have da0 : ac.eval (.tmp 103) = .slice (some ⟨W1.heap.size, 0, none⟩) 0 0 := hF.2.2.2 11 103 _ rfl (hdep ⟨11, .data⟩ (by simp) rfl)
        have da1 : ac.eval (.tmp 104) = .slice a n cap := hF.2.2.2 12 104 _ rfl (hdep ⟨12, .data⟩ (by simp) rfl)
        have hA := hW.at (k := 1) rfl hi (.inr ⟨11, rfl, (hdep ⟨11, .data⟩ (by simp) rfl)⟩)
        obtain ⟨g', c', w2, hr, hA2⟩ := hA.two HBY.out HNIL.out HBS.out HL6.out
        exact Ord.ex_letter x (g', c', x.2.2.1, x.2.2.2) rfl rfl (Rg.app da0 da1 rfl hr) rfl (fun j hj => match j, hj with | 0, _ => rfl | 1, _ => rfl | 2, _ => rfl | 3, _ => rfl | 4, _ => rfl | 5, _ => rfl | 6, _ => rfl | 7, _ => rfl | 8, _ => rfl | 9, _ => rfl | 10, _ => rfl | 11, _ => rfl | 12, _ => rfl | 13, hj => absurd hj (by rw [hi]; decide) | 14, hj => absurd hj (by rw [(Rg.no_of (fun h => hcl 14 _ rfl (h) ⟨13, .data⟩ (by simp) rfl) hi)]; decide) | 15, _ => rfl | 16, _ => rfl | 17, _ => rfl | 18, _ => rfl | 19, _ => rfl | _ + 20, _ => rfl) (hW.next (k := 1) rfl (by decide) hi (.inr ⟨11, rfl, (hdep ⟨11, .data⟩ (by simp) rfl)⟩) hA2)
      | 14, ho, hi, hdep =>
        cases ho
        have da0 : ac.eval (.tmp 102) = .agg #[.int .i64 nx, .int .i64 now, .int .i64 (n : Int), .bool false] := hF.2.2.2 10 102 _ rfl (hdep ⟨10, .data⟩ (by simp) rfl)
        have da1 : ac.eval (.tmp 105) = .slice (some ⟨x.1, 0, none⟩) n x.2.1 := hF.2.2.2 13 105 _ rfl (hdep ⟨13, .data⟩ (by simp) rfl)
        exact Ord.ex_value x rfl rfl (Rg.bld rfl (by simp [da0, da1]) (run_rpk _ _ _ _ _ _ _ _)) rfl (hW.keep (by decide))
      | 15, ho, hi, hdep =>
        cases ho
        have da0 : ac.eval (.tmp 106) = .agg #[.int .i64 nx, .int .i64 now, .int .i64 (n : Int), .bool false, .slice (some ⟨x.1, 0, none⟩) n x.2.1] := hF.2.2.2 14 106 _ rfl (hdep ⟨14, .data⟩ (by simp) rfl)
        have hA := hW.at (k := 2) rfl hi (.inr ⟨13, rfl, (hcl 14 _ rfl (hdep ⟨14, .data⟩ (by simp) rfl) ⟨13, .data⟩ (by simp) rfl)⟩)
        obtain ⟨g', w2, hr, hA2, -⟩ := hA.three
        exact Ord.ex_letter x (x.1, x.2.1, g', x.2.2.2) rfl rfl (Rg.bsl rfl (by simp [da0]) hr) rfl (fun j hj => match j, hj with | 0, _ => rfl | 1, _ => rfl | 2, _ => rfl | 3, _ => rfl | 4, _ => rfl | 5, _ => rfl | 6, _ => rfl | 7, _ => rfl | 8, _ => rfl | 9, _ => rfl | 10, _ => rfl | 11, _ => rfl | 12, _ => rfl | 13, _ => rfl | 14, _ => rfl | 15, hj => absurd hj (by rw [hi]; decide) | 16, _ => rfl | 17, _ => rfl | 18, _ => rfl | 19, _ => rfl | _ + 20, _ => rfl) (hW.next (k := 2) rfl (by decide) hi (.inr ⟨13, rfl, (hcl 14 _ rfl (hdep ⟨14, .data⟩ (by simp) rfl) ⟨13, .data⟩ (by simp) rfl)⟩) hA2)
      | 16, ho, hi, hdep =>
        cases ho
        have da0 : ac.eval (.tmp 96) = .slice va ln vcap := hF.2.2.2 4 96 _ rfl (hdep ⟨4, .data⟩ (by simp) rfl)
        have da1 : ac.eval (.tmp 107) = .slice (some ⟨x.2.2.1, 0, none⟩) 1 1 := hF.2.2.2 15 107 _ rfl (hdep ⟨15, .data⟩ (by simp) rfl)
        have hA := hW.at (k := 3) rfl hi (.inr ⟨15, rfl, (hdep ⟨15, .data⟩ (by simp) rfl)⟩)
        obtain ⟨v', w2, hr, hA2, -⟩ := hA.four HRO.out HLL.out HBS.out 103
        rw [HV.out] at hr
        exact Ord.ex_letter x (x.1, x.2.1, x.2.2.1, v') rfl rfl (Rg.app da0 da1 rfl hr) rfl (fun j hj => match j, hj with | 0, _ => rfl | 1, _ => rfl | 2, _ => rfl | 3, _ => rfl | 4, _ => rfl | 5, _ => rfl | 6, _ => rfl | 7, _ => rfl | 8, _ => rfl | 9, _ => rfl | 10, _ => rfl | 11, _ => rfl | 12, _ => rfl | 13, _ => rfl | 14, _ => rfl | 15, _ => rfl | 16, hj => absurd hj (by rw [hi]; decide) | 17, _ => rfl | 18, _ => rfl | 19, _ => rfl | _ + 20, _ => rfl) (hW.next (k := 3) rfl (by decide) hi (.inr ⟨15, rfl, (hdep ⟨15, .data⟩ (by simp) rfl)⟩) hA2)
      | 17, ho, hi, hdep =>
        cases ho
        have da0 : ac.eval (.tmp 92) = .pointer (some ⟨gr, en.toNat * 5, none⟩) := hF.2.2.2 0 92 _ rfl (hdep ⟨0, .data⟩ (by simp) rfl)
        exact Ord.ex_value x rfl rfl (Rg.nilc da0 rfl) rfl (hW.keep (by decide))
      | 18, ho, hi, hdep =>
        cases ho
        have da0 : ac.eval (.tmp 109) = .pointer (some ⟨gr, en.toNat * 5, none⟩) := hF.2.2.2 17 109 _ rfl (hdep ⟨17, .data⟩ (by simp) rfl)
        exact Ord.ex_value x rfl rfl (Rg.fa da0 rfl (by simp [go_sem])) rfl (hW.keep (by decide))
      | 19, ho, hi, hdep =>
        cases ho
        have da0 : ac.eval (.tmp 110) = .pointer (some ⟨gr, en.toNat * 5, none⟩) := hF.2.2.2 18 110 _ rfl (hdep ⟨18, .data⟩ (by simp) rfl)
        have da1 : ac.eval (.tmp 108) = x.2.2.2 := hF.2.2.2 16 108 _ rfl (hdep ⟨16, .data⟩ (by simp) rfl)
        have hA := hW.at (k := 4) rfl hi (.inr ⟨16, rfl, (hdep ⟨16, .data⟩ (by simp) rfl)⟩)
        obtain ⟨hr, hA2⟩ := hA.five HRO.out HI.out HE.out HGE.out
        exact Rg.ex_skip x rfl rfl (Rg.sto da0 da1 rfl hr) rfl (hW.next (k := 4) rfl (by decide) hi (.inr ⟨16, rfl, (hdep ⟨16, .data⟩ (by simp) rfl)⟩) hA2)
    case refine_3 => exact Rg.StM.first ⟨fun _ => (Below.refl _ _).drew, fun _ => rfl, fun e => absurd e (by decide), fun e => absurd e (by decide), fun e => absurd e (by decide), fun e => absurd e (by decide), fun e => absurd e (by decide)⟩
    case refine_2 =>
      intro x w2 hW
      have h5 := hW.last.h5 rfl
      obtain rfl : nx = S.next := HNX.out
      have HF := hidden (FIN.out w2 h5)
      clear hW h5
      simp only [Ord.puts, Ord.prs]
      go_simp
      go_wp2
      go_ret2
      exact HF.out
/-- all that is read, where a packet is taken -/
theorem rput_pre_f (h : Ro base w r rv ov rb vs X S) (hI : Inv S) (hn : S.next ≤ 1000) {en path now : Int} {bs : List Int} {n : Nat} (hnb : bs.length = n) (hE : laE S en path now bs.length = 0) :
    ∃ g cap gr a ln c go oc x l, (w.cell? ⟨r, 0, none⟩ = some (.slice (some ⟨g, 0, none⟩) S.p cap) ∧ w.cell? ⟨g, path.toNat, none⟩ = some (.slice (some ⟨gr, 0, none⟩) 2 2) ∧ w.cell? ⟨gr, en.toNat * 5, none⟩ = some (.slice a ln c) ∧ w.cell? ⟨gr, en.toNat * 5 + 4, none⟩ = some (.int .i64 x) ∧ w.cell? ⟨gr, en.toNat * 5 + 3, none⟩ = some (.int .i64 l) ∧ w.cell? ⟨r, 1, none⟩ = some (.slice (some ⟨go, 0, none⟩) S.p oc) ∧ w.cell? ⟨go, path.toNat, none⟩ = some (.bool (S.off path.toNat)) ∧ w.cell? ⟨r, 2, none⟩ = some (.int .i64 S.next)) ∧
      (w.frozen? ⟨r, 2, none⟩ = false ∧ (∀ k, w.frozen? ⟨gr, k, none⟩ = false) ∧ r ≠ gr ∧ r ≠ g ∧ r ≠ go ∧ gr ≠ g ∧ gr ≠ go) ∧ (ln ≤ 1000 ∧ 0 ≤ x ∧ x ≤ 1000 ∧ 0 ≤ l ∧ l ≤ 1000 ∧ gr = rb path.toNat ∧ vs path.toNat en.toNat = .slice a ln c) ∧
      (∀ W1, W1 = (w.setCell ⟨r, 2, none⟩ (.int .i64 (S.next + 1))).setCell ⟨gr, en.toNat * 5 + 4, none⟩ (.int .i64 (x + 1)) → ∃ S1 : St, S1 = ⟨S.p, S.next + 1, up2 S.R path.toNat en.toNat ⟨bump true (S.R path.toNat en.toNat).T, (S.R path.toNat en.toNat).L⟩, S.off⟩ ∧ Ro base W1 r rv ov rb vs X S1 ∧ Kept (fun t => t == 40 || t == 105) base w W1 ∧ Ro base (W1.setCell ⟨gr, en.toNat * 5 + 3, none⟩ (.int .i64 (l + 1))) r rv ov rb vs X (S1.row path.toNat en.toNat ⟨drT (S1.R path.toNat en.toNat).T, (S1.R path.toNat en.toNat).L⟩) ∧ Kept TYr base W1 (W1.setCell ⟨gr, en.toNat * 5 + 3, none⟩ (.int .i64 (l + 1)))) := by
  obtain ⟨hp, _, _⟩ := laE_zero hE
  obtain ⟨⟨h1, h2⟩, h3, h4⟩ := ok_iff.1 hp
  have hi : path.toNat < S.p := by omega
  have he : en.toNat < 2 := by omega
  obtain ⟨g, cap, gr, ln, a, c, c0, c1, hgr, l1, l2, l3, hvs, hnn, d0, d1, d2, d3, d4, hf⟩ := h.at hp
  obtain ⟨go, oc, hov, o1, o2, _, _⟩ := h.cutAt hi
  have hr := hI.rows path.toNat en.toNat
  have := hr.s; have := hr.d; have := hr.l; have := hr.f; have := hr.sum; have := hr.few; have := hr.len
  obtain ⟨cs, hcs⟩ := (h.row _ hi).has
  rw [← hgr] at hcs
  have hrows := h.rows
  have hoffs := h.offs
  obtain ⟨g0, cap0, hv0, c00, _⟩ := h.place hi
  rw [c00] at c0
  cases c0
  rw [hv0] at hrows
  rw [hov] at hoffs
  refine ⟨g, cap, gr, a, ln, c, go, oc, _, _, ⟨c00, c1, d0, d4, d3, o1, o2, h.net.cell 2 rfl⟩, ⟨h.net.frozen 2, hf, h.net.ne hcs (by decide), fun ee => own_ne hrows h.net (by decide) g rfl ee, fun ee => own_ne hoffs h.net (by decide) go rfl ee, fun ee => own_ne hrows hcs (by decide) g rfl ee, fun ee => own_ne hoffs hcs (by decide) go rfl ee⟩, ⟨by omega, by omega, by omega, by omega, by omega, hgr, hvs⟩, fun W1 hW1 => ?_⟩
  have hA := h.setNext (S.next + 1)
  have hcsA : Has (w.setCell ⟨r, 2, none⟩ (.int .i64 (S.next + 1))) gr cs 105 := hcs.set_other (p := ⟨r, 2, none⟩) (hcs.ne h.net (by decide)) _
  have hB := hA.setT (i := path.toNat) (e := en.toNat) hi he (k := 4) (by decide) (u := .int .i64 ((S.R path.toNat en.toNat).T.f + 1)) (T' := bump true (S.R path.toNat en.toNat).T) rfl
  rw [← hgr, ← hW1] at hB
  have hcs1 : Has W1 gr (cs.setIfInBounds (en.toNat * 5 + 4) (.int .i64 ((S.R path.toNat en.toNat).T.f + 1))) 105 := by rw [hW1]; exact hcsA.set _ _
  have hbgr : base ≤ gr := by rw [hgr]; exact h.rbb _ hi
  refine ⟨_, rfl, hB, ?_, ?_, (Kept.refl _ _ _).set (p := ⟨gr, _, none⟩) hcs1 rfl hbgr _⟩
  · rw [hW1]
    exact ((Kept.refl _ _ _).set (p := ⟨r, 2, none⟩) h.net rfl h.br _).set (p := ⟨gr, _, none⟩) hcsA rfl hbgr _
  · have hC := hB.setT (i := path.toNat) (e := en.toNat) hi he (k := 3) (by decide) (u := .int .i64 ((S.R path.toNat en.toNat).T.l + 1)) (T' := drT (bump true (S.R path.toNat en.toNat).T)) (by simp only [St.row, up2_same]; rfl)
    rw [← hgr] at hC
    have er : (up2 S.R path.toNat en.toNat ⟨bump true (S.R path.toNat en.toNat).T, (S.R path.toNat en.toNat).L⟩) path.toNat en.toNat = ⟨bump true (S.R path.toNat en.toNat).T, (S.R path.toNat en.toNat).L⟩ := up2_same _ _ _ _
    simp only [er]
    simp only [St.row, up2_same] at hC
    exact hC
set_option maxHeartbeats 4000000 in
set_option maxRecDepth 20000 in
theorem rput_ok_f (h : Ro base w r rv ov rb vs X S) (hI : Inv S) (hn : S.next ≤ 1000) (hbase : base ≤ w.heap.size) (en path now : Int) {a : Option Addr} {n cap : Nat} {bs : List Int} (hb : By base w a n bs) (hnil : a = none → cap = 0) (hE : laE S en path now bs.length = 0) :
    Calls Try.prog 47 #[.pointer (some ⟨r, 0, none⟩), .int .i64 en, .int .i64 path, .slice a n cap, .int .i64 now, .bool true] w fun e' w' => RlO base w r S en path now bs true e' w' := by
  have HS := hidden (rHas h hI.p en path)
  obtain ⟨hp, hnow, hlen⟩ := laE_zero hE
  rw [hp] at HS
  have hnb : bs.length = n := hb.1
  obtain ⟨⟨h1, h2⟩, h3, h4⟩ := ok_iff.1 hp
  obtain ⟨g, rcap, gr, va, ln, vcap, go, oc, xx, l, ⟨c0, c1, d0, dx, d3, o1, o2, cn⟩, ⟨fr, hf, n1, n2, n3, n4, n5⟩, ⟨b1, b2, b3, b4, b5, hgr, hvs⟩, FN⟩ := rput_pre_f h hI hn hnb hE
  obtain ⟨W1, hW1⟩ : ∃ W1, W1 = (w.setCell ⟨r, 2, none⟩ (.int .i64 (S.next + 1))).setCell ⟨gr, en.toNat * 5 + 4, none⟩ (.int .i64 (xx + 1)) := ⟨_, rfl⟩
  obtain ⟨S1, hS1, hR1, hK1, hR2, hK2⟩ := FN W1 hW1
  have hK1' : Kept TYr base w W1 := hK1.mono (fun t ht => by unfold TYr at ht; revert ht; cases t == 40 <;> cases t == 105 <;> simp)
  have hnx := hI.next
  have f1 := hf (en.toNat * 5 + 4)
  have f3 := hf (en.toNat * 5 + 3)
  have hp8 := hI.p
  have hI0 : Hid (laI S en path now bs.length = S.next) := by unfold Hid laI; rw [hE]; rfl
  cases ho : S.off path.toNat with
  | true =>
    have FIN : Hid (RlO base w r S en path now bs true (.returned (.tuple #[.int .i64 S.next, .int .i64 0])) (W1.setCell ⟨gr, en.toNat * 5 + 3, none⟩ (.int .i64 (l + 1)))) := by
      refine ⟨by rw [hI0.out, hE], ⟨rv, ov, rb, vs, X, ?_⟩, hK1'.trans hK2⟩
      unfold laS
      rw [if_pos hE]
      unfold putS putR cnt St.row
      simp only [ho, up2_same, up2_up2]
      rw [hS1] at hR2
      unfold St.row at hR2
      simp only [up2_same, up2_up2] at hR2
      exact hR2
    rw [ho] at o2
    rw [hW1] at FIN
    clear h hp hb FN hR1 hK1 hR2 hK2 hK1' hgr hvs hE hS1 hW1 hf hI0 hI
    go_enter Try.func47, Try.ntmps47
    go_wp2_with fail
    refine Calls.mono HS.out ?_
    rintro e w' ⟨rfl, rfl⟩
    go_wp2
    go_ret2
    exact FIN.out
  | false =>
    have FIN : Hid (∀ w2, Ros base W1 r (S1.row path.toNat en.toNat ⟨(S1.R path.toNat en.toNat).T, (S1.R path.toNat en.toNat).L ++ [⟨S.next, now, n, true, bs⟩]⟩) w2 → RlO base w r S en path now bs true (.returned (.tuple #[.int .i64 S.next, .int .i64 0])) w2) := fun w2 hR => by
      obtain ⟨hR, hK⟩ := hR
      refine ⟨by rw [hI0.out, hE], ?_, hK1'.trans hK⟩
      unfold laS
      rw [if_pos hE]
      unfold putS putR cnt St.row
      simp only [ho, up2_same, up2_up2]
      rw [hS1] at hR
      unfold St.row at hR
      simp only [up2_same, up2_up2] at hR
      rw [hnb]
      exact hR
    rw [ho] at o2
    have HBY : Hid (By base W1 a n bs) := hb.stay hK1 rfl
    have HNIL := hidden hnil
    have HBS : Hid (base ≤ W1.heap.size) := Nat.le_trans hbase hK1.size
    have HL6 : Hid (n ≤ 65536) := by rw [← hnb]; exact hlen
    have HRO := hidden hR1
    have HLL : Hid ((X path.toNat en.toNat).length ≤ 100000) := by
      rw [h.len]
      have := (hI.rows path.toNat en.toNat).len
      unfold Hid
      omega
    have HI : Hid (path.toNat < S1.p) := by rw [hS1]; show path.toNat < S.p; omega
    have HE : Hid (en.toNat < 2) := by unfold Hid; omega
    have HGE := hidden hgr
    have HV := hidden hvs
    have hgw : gr < w.heap.size := cell_lt d0
    have HGR : Hid (gr < W1.heap.size) := Nat.lt_of_lt_of_le hgw hK1.size
    have HC4 : Hid (W1.cell? ⟨gr, en.toNat * 5, none⟩ = some (.slice va ln vcap)) := by
      rw [hW1]
      have hq : (⟨gr, en.toNat * 5 + 4, none⟩ : Addr) ≠ ⟨gr, en.toNat * 5, none⟩ := fun hh => by injection hh with _ h2; omega
      have hq2 : (⟨r, 2, none⟩ : Addr) ≠ ⟨gr, en.toNat * 5, none⟩ := fun hh => by injection hh with h1; exact n1 h1
      unfold Hid
      rw [World.cell?_setCell_other _ _ _ _ hq, World.cell?_setCell_other _ _ _ _ hq2]
      exact d0
    have HW1 := hidden hW1
    obtain ⟨nx, hnx2⟩ : ∃ nx, nx = S.next := ⟨_, rfl⟩
    have HNX := hidden hnx2
    clear h hp hb FN hR1 hK1 hR2 hK2 hK1' hgr hvs hE hS1 hW1 hf hI0 hI hnx2
    go_enter Try.func47, Try.ntmps47
    go_wp2_with fail
    refine Calls.mono HS.out ?_
    rintro e w' ⟨rfl, rfl⟩
    go_upto_region 18 with fail
    rw [← HW1.out]
    rw [← HNX.out]
    refine Ord.wp_region_ex0 (X := Nat × Nat × Nat × Value) (by kernel_rfl) 112 (fun x => [(some 92, .pointer (some ⟨gr, en.toNat * 5, none⟩)), (some 93, .pointer (some ⟨gr, en.toNat * 5, none⟩)), (some 94, .pointer (some ⟨gr, en.toNat * 5, none⟩)), (some 95, .pointer (some ⟨gr, en.toNat * 5, none⟩)), (some 96, .slice va ln vcap), (some 97, .int .i64 nx), (some 98, .int .i64 now), (some 99, .slice a n cap), (some 100, .int .i64 (n : Int)), (some 101, .bool true), (some 102, .agg #[.int .i64 nx, .int .i64 now, .int .i64 (n : Int), .bool true]), (some 103, .slice (some ⟨W1.heap.size, 0, none⟩) 0 0), (some 104, .slice a n cap), (some 105, .slice (some ⟨x.1, 0, none⟩) n x.2.1), (some 106, .agg #[.int .i64 nx, .int .i64 now, .int .i64 (n : Int), .bool true, .slice (some ⟨x.1, 0, none⟩) n x.2.1]), (some 107, .slice (some ⟨x.2.2.1, 0, none⟩) 1 1), (some 108, x.2.2.2), (some 109, .pointer (some ⟨gr, en.toNat * 5, none⟩)), (some 110, .pointer (some ⟨gr, en.toNat * 5, none⟩)), (none, undef)]) [some 92, some 93, some 94, some 95, some 96, some 97, some 98, some 99, some 100, some 101, some 102, some 103, some 104, some 105, some 106, some 107, some 108, some 109, some 110, none] rfl (fun listed hsz hr => Ord.all_listedC (rank := [0, 1, 2, 3, 4, 5, 6, 7, 8, 9, 10, 11, 12, 13, 14, 15, 16, 17, 18, 19]) (by kernel_rfl) hsz hr) (by rfl) (fun _ => rfl) (by kernel_rfl) (Rg.StM [11, 13, 15, 16, 19] (fun k x w' => RpA base W1 r rv ov rb vs X S1 path.toNat en.toNat n (Pk.mk nx now n true bs) k x w')) (fun _ _ _ _ hL h => h.ext (n := 20) (by decide) hL) ?_ ?_ (0, 0, 0, undef) ?_
    case refine_1 =>
      intro x Lq iq oq ac w' ho hi hcl hdep hF hW
      have f1 : ac.tmps.size = 112 := hF.1
      match iq, ho, hi, hdep with
      | 0, ho, hi, hdep =>
        cases ho
        have da0 : ac.eval (.tmp 14) = .pointer (some ⟨gr, en.toNat * 5, none⟩) := hF.old 14 rfl
        exact Ord.ex_value x rfl rfl (Rg.mv da0 rfl) rfl (hW.keep (by decide))
      | 1, ho, hi, hdep =>
        cases ho
        have da0 : ac.eval (.tmp 14) = .pointer (some ⟨gr, en.toNat * 5, none⟩) := hF.old 14 rfl
        exact Ord.ex_value x rfl rfl (Rg.mv da0 rfl) rfl (hW.keep (by decide))
      | 2, ho, hi, hdep =>
        cases ho
        have da0 : ac.eval (.tmp 93) = .pointer (some ⟨gr, en.toNat * 5, none⟩) := hF.2.2.2 1 93 _ rfl (hdep ⟨1, .data⟩ (by simp) rfl)
        exact Ord.ex_value x rfl rfl (Rg.nilc da0 rfl) rfl (hW.keep (by decide))
      | 3, ho, hi, hdep =>
        cases ho
        have da0 : ac.eval (.tmp 94) = .pointer (some ⟨gr, en.toNat * 5, none⟩) := hF.2.2.2 2 94 _ rfl (hdep ⟨2, .data⟩ (by simp) rfl)
        exact Ord.ex_value x rfl rfl (Rg.fa da0 rfl (by simp [go_sem])) rfl (hW.keep (by decide))
      | 4, ho, hi, hdep =>
        cases ho
        have da0 : ac.eval (.tmp 95) = .pointer (some ⟨gr, en.toNat * 5, none⟩) := hF.2.2.2 3 95 _ rfl (hdep ⟨3, .data⟩ (by simp) rfl)
        obtain ⟨kq, hlo, hhi, hA⟩ := hW.range 0 3 (.inl rfl) (.inr ⟨16, rfl, (Rg.no_of (fun h => hcl 16 _ rfl (h) ⟨4, .data⟩ (by simp) rfl) hi)⟩)
        exact Ord.ex_value x rfl rfl (Rg.load da0 rfl (by have hc := ((hA.bel hhi).cell (p := ⟨gr, en.toNat * 5, none⟩) HGR.out).trans HC4.out; simp [go_sem, hc])) rfl (hW.keep (by decide))
      | 5, ho, hi, hdep =>
        cases ho
        have da0 : ac.eval (.tmp 15) = .int .i64 nx := hF.old 15 rfl
        exact Ord.ex_value x rfl rfl (Rg.mv da0 rfl) rfl (hW.keep (by decide))
      | 6, ho, hi, hdep =>
        cases ho
        have da0 : ac.eval (.tmp 4) = .int .i64 now := hF.old 4 rfl
        exact Ord.ex_value x rfl rfl (Rg.mv da0 rfl) rfl (hW.keep (by decide))
      | 7, ho, hi, hdep =>
        cases ho
        have da0 : ac.eval (.tmp 3) = .slice a n cap := hF.old 3 rfl
        exact Ord.ex_value x rfl rfl (Rg.mv da0 rfl) rfl (hW.keep (by decide))
      | 8, ho, hi, hdep =>
        cases ho
        have da0 : ac.eval (.tmp 99) = .slice a n cap := hF.2.2.2 7 99 _ rfl (hdep ⟨7, .data⟩ (by simp) rfl)
        exact Ord.ex_value x rfl rfl (Rg.len_ da0 rfl (by simp [go_sem])) rfl (hW.keep (by decide))
      | 9, ho, hi, hdep =>
        cases ho
        have da0 : ac.eval (.tmp 5) = .bool true := hF.old 5 rfl
        exact Ord.ex_value x rfl rfl (Rg.mv da0 rfl) rfl (hW.keep (by decide))
      | 10, ho, hi, hdep =>
        cases ho
        have da0 : ac.eval (.tmp 97) = .int .i64 nx := hF.2.2.2 5 97 _ rfl (hdep ⟨5, .data⟩ (by simp) rfl)
        have da1 : ac.eval (.tmp 98) = .int .i64 now := hF.2.2.2 6 98 _ rfl (hdep ⟨6, .data⟩ (by simp) rfl)
        have da2 : ac.eval (.tmp 100) = .int .i64 (n : Int) := hF.2.2.2 8 100 _ rfl (hdep ⟨8, .data⟩ (by simp) rfl)
        have da3 : ac.eval (.tmp 101) = .bool true := hF.2.2.2 9 101 _ rfl (hdep ⟨9, .data⟩ (by simp) rfl)
        exact Ord.ex_value x rfl rfl (Rg.bld rfl (by simp [da0, da1, da2, da3]) (run_flt _ _ _ _ _)) rfl (hW.keep (by decide))
      | 11, ho, hi, hdep =>
        cases ho
        have hA := hW.at (k := 0) rfl hi (.inl rfl)
        have hw := hA.h0 rfl
        subst hw
        exact Ord.ex_value x rfl rfl (Rg.bsl rfl (by simp) (run_bs0 _)) rfl (hW.next (k := 0) rfl (by decide) hi (.inl rfl) ⟨fun _ => hA.bel (by decide) |>.alloc (by simp) _, (fun e => absurd e (by decide)), fun _ => rfl, (fun e => absurd e (by decide)), (fun e => absurd e (by decide)), (fun e => absurd e (by decide)), (fun e => absurd e (by decide))⟩)
      | 12, ho, hi, hdep =>
        cases ho
        have da0 : ac.eval (.tmp 3) = .slice a n cap := hF.old 3 rfl
        exact Ord.ex_value x rfl rfl (Rg.mv da0 rfl) rfl (hW.keep (by decide))
      | 13, ho, hi, hdep =>
        cases ho
        have da0 : ac.eval (.tmp 103) = .slice (some ⟨W1.heap.size, 0, none⟩) 0 0 := hF.2.2.2 11 103 _ rfl (hdep ⟨11, .data⟩ (by simp) rfl)
        have da1 : ac.eval (.tmp 104) = .slice a n cap := hF.2.2.2 12 104 _ rfl (hdep ⟨12, .data⟩ (by simp) rfl)
        have hA := hW.at (k := 1) rfl hi (.inr ⟨11, rfl, (hdep ⟨11, .data⟩ (by simp) rfl)⟩)
        obtain ⟨g', c', w2, hr, hA2⟩ := hA.two HBY.out HNIL.out HBS.out HL6.out
        exact Ord.ex_letter x (g', c', x.2.2.1, x.2.2.2) rfl rfl (Rg.app da0 da1 rfl hr) rfl (fun j hj => match j, hj with | 0, _ => rfl | 1, _ => rfl | 2, _ => rfl | 3, _ => rfl | 4, _ => rfl | 5, _ => rfl | 6, _ => rfl | 7, _ => rfl | 8, _ => rfl | 9, _ => rfl | 10, _ => rfl | 11, _ => rfl | 12, _ => rfl | 13, hj => absurd hj (by rw [hi]; decide) | 14, hj => absurd hj (by rw [(Rg.no_of (fun h => hcl 14 _ rfl (h) ⟨13, .data⟩ (by simp) rfl) hi)]; decide) | 15, _ => rfl | 16, _ => rfl | 17, _ => rfl | 18, _ => rfl | 19, _ => rfl | _ + 20, _ => rfl) (hW.next (k := 1) rfl (by decide) hi (.inr ⟨11, rfl, (hdep ⟨11, .data⟩ (by simp) rfl)⟩) hA2)
      | 14, ho, hi, hdep =>
        cases ho
        have da0 : ac.eval (.tmp 102) = .agg #[.int .i64 nx, .int .i64 now, .int .i64 (n : Int), .bool true] := hF.2.2.2 10 102 _ rfl (hdep ⟨10, .data⟩ (by simp) rfl)
        have da1 : ac.eval (.tmp 105) = .slice (some ⟨x.1, 0, none⟩) n x.2.1 := hF.2.2.2 13 105 _ rfl (hdep ⟨13, .data⟩ (by simp) rfl)
        exact Ord.ex_value x rfl rfl (Rg.bld rfl (by simp [da0, da1]) (run_rpk _ _ _ _ _ _ _ _)) rfl (hW.keep (by decide))
      | 15, ho, hi, hdep =>
        cases ho
        have da0 : ac.eval (.tmp 106) = .agg #[.int .i64 nx, .int .i64 now, .int .i64 (n : Int), .bool true, .slice (some ⟨x.1, 0, none⟩) n x.2.1] := hF.2.2.2 14 106 _ rfl (hdep ⟨14, .data⟩ (by simp) rfl)
        have hA := hW.at (k := 2) rfl hi (.inr ⟨13, rfl, (hcl 14 _ rfl (hdep ⟨14, .data⟩ (by simp) rfl) ⟨13, .data⟩ (by simp) rfl)⟩)
        obtain ⟨g', w2, hr, hA2, -⟩ := hA.three
        exact Ord.ex_letter x (x.1, x.2.1, g', x.2.2.2) rfl rfl (Rg.bsl rfl (by simp [da0]) hr) rfl (fun j hj => match j, hj with | 0, _ => rfl | 1, _ => rfl | 2, _ => rfl | 3, _ => rfl | 4, _ => rfl | 5, _ => rfl | 6, _ => rfl | 7, _ => rfl | 8, _ => rfl | 9, _ => rfl | 10, _ => rfl | 11, _ => rfl | 12, _ => rfl | 13, _ => rfl | 14, _ => rfl | 15, hj => absurd hj (by rw [hi]; decide) | 16, _ => rfl | 17, _ => rfl | 18, _ => rfl | 19, _ => rfl | _ + 20, _ => rfl) (hW.next (k := 2) rfl (by decide) hi (.inr ⟨13, rfl, (hcl 14 _ rfl (hdep ⟨14, .data⟩ (by simp) rfl) ⟨13, .data⟩ (by simp) rfl)⟩) hA2)
      | 16, ho, hi, hdep =>
        cases ho
        have da0 : ac.eval (.tmp 96) = .slice va ln vcap := hF.2.2.2 4 96 _ rfl (hdep ⟨4, .data⟩ (by simp) rfl)
        have da1 : ac.eval (.tmp 107) = .slice (some ⟨x.2.2.1, 0, none⟩) 1 1 := hF.2.2.2 15 107 _ rfl (hdep ⟨15, .data⟩ (by simp) rfl)
        have hA := hW.at (k := 3) rfl hi (.inr ⟨15, rfl, (hdep ⟨15, .data⟩ (by simp) rfl)⟩)
        obtain ⟨v', w2, hr, hA2, -⟩ := hA.four HRO.out HLL.out HBS.out 103
        rw [HV.out] at hr
        exact Ord.ex_letter x (x.1, x.2.1, x.2.2.1, v') rfl rfl (Rg.app da0 da1 rfl hr) rfl (fun j hj => match j, hj with | 0, _ => rfl | 1, _ => rfl | 2, _ => rfl | 3, _ => rfl | 4, _ => rfl | 5, _ => rfl | 6, _ => rfl | 7, _ => rfl | 8, _ => rfl | 9, _ => rfl | 10, _ => rfl | 11, _ => rfl | 12, _ => rfl | 13, _ => rfl | 14, _ => rfl | 15, _ => rfl | 16, hj => absurd hj (by rw [hi]; decide) | 17, _ => rfl | 18, _ => rfl | 19, _ => rfl | _ + 20, _ => rfl) (hW.next (k := 3) rfl (by decide) hi (.inr ⟨15, rfl, (hdep ⟨15, .data⟩ (by simp) rfl)⟩) hA2)
      | 17, ho, hi, hdep =>
        cases ho
        have da0 : ac.eval (.tmp 92) = .pointer (some ⟨gr, en.toNat * 5, none⟩) := hF.2.2.2 0 92 _ rfl (hdep ⟨0, .data⟩ (by simp) rfl)
        exact Ord.ex_value x rfl rfl (Rg.nilc da0 rfl) rfl (hW.keep (by decide))
      | 18, ho, hi, hdep =>
        cases ho
        have da0 : ac.eval (.tmp 109) = .pointer (some ⟨gr, en.toNat * 5, none⟩) := hF.2.2.2 17 109 _ rfl (hdep ⟨17, .data⟩ (by simp) rfl)
        exact Ord.ex_value x rfl rfl (Rg.fa da0 rfl (by simp [go_sem])) rfl (hW.keep (by decide))
      | 19, ho, hi, hdep =>
        cases ho
        have da0 : ac.eval (.tmp 110) = .pointer (some ⟨gr, en.toNat * 5, none⟩) := hF.2.2.2 18 110 _ rfl (hdep ⟨18, .data⟩ (by simp) rfl)
        have da1 : ac.eval (.tmp 108) = x.2.2.2 := hF.2.2.2 16 108 _ rfl (hdep ⟨16, .data⟩ (by simp) rfl)
        have hA := hW.at (k := 4) rfl hi (.inr ⟨16, rfl, (hdep ⟨16, .data⟩ (by simp) rfl)⟩)
        obtain ⟨hr, hA2⟩ := hA.five HRO.out HI.out HE.out HGE.out
        exact Rg.ex_skip x rfl rfl (Rg.sto da0 da1 rfl hr) rfl (hW.next (k := 4) rfl (by decide) hi (.inr ⟨16, rfl, (hdep ⟨16, .data⟩ (by simp) rfl)⟩) hA2)
    case refine_3 => exact Rg.StM.first ⟨fun _ => (Below.refl _ _).drew, fun _ => rfl, fun e => absurd e (by decide), fun e => absurd e (by decide), fun e => absurd e (by decide), fun e => absurd e (by decide), fun e => absurd e (by decide)⟩
    case refine_2 =>
      intro x w2 hW
      have h5 := hW.last.h5 rfl
      obtain rfl : nx = S.next := HNX.out
      have HF := hidden (FIN.out w2 h5)
      clear hW h5
      simp only [Ord.puts, Ord.prs]
      go_simp
      go_wp2
      go_ret2
      exact HF.out
theorem rput (h : Ro base w r rv ov rb vs X S) (hI : Inv S) (hn : S.next ≤ 1000) (hbase : base ≤ w.heap.size) (en path now : Int) {a : Option Addr} {n cap : Nat} {bs : List Int} (hb : By base w a n bs) (hnil : a = none → cap = 0) (f : Bool) :
    Calls Try.prog 47 #[.pointer (some ⟨r, 0, none⟩), .int .i64 en, .int .i64 path, .slice a n cap, .int .i64 now, .bool f] w fun e' w' => RlO base w r S en path now bs f e' w' := by
  by_cases hE : laE S en path now bs.length = 0
  · cases f with
    | false => exact rput_ok_s h hI hn hbase en path now hb hnil hE
    | true => exact rput_ok_f h hI hn hbase en path now hb hnil hE
  · exact rput_no h hI hn en path now hb f hE
theorem rSend (h : Ro base w r rv ov rb vs X S) (hI : Inv S) (hn : S.next ≤ 1000) (hbase : base ≤ w.heap.size) (en path now : Int) {a : Option Addr} {n cap : Nat} {bs : List Int} (hb : By base w a n bs) (hnil : a = none → cap = 0) :
    Calls Try.prog 24 #[.pointer (some ⟨r, 0, none⟩), .int .i64 en, .int .i64 path, .slice a n cap, .int .i64 now] w fun e' w' => RlO base w r S en path now bs false e' w' := by
  have LA := hidden (rput h hI hn hbase en path now (cap := cap) hb hnil false)
  clear h hb
  go_enter Try.func24, Try.ntmps24
  go_wp2_with fail
  refine Calls.mono LA.out ?_
  intro e w' hL
  obtain rfl := hL.1
  have HL := hidden hL
  clear hL
  go_wp2
  go_ret2
  exact HL.out
theorem rForge (h : Ro base w r rv ov rb vs X S) (hI : Inv S) (hn : S.next ≤ 1000) (hbase : base ≤ w.heap.size) (en path now : Int) {a : Option Addr} {n cap : Nat} {bs : List Int} (hb : By base w a n bs) (hnil : a = none → cap = 0) :
    Calls Try.prog 25 #[.pointer (some ⟨r, 0, none⟩), .int .i64 en, .int .i64 path, .slice a n cap, .int .i64 now] w fun e' w' => RlO base w r S en path now bs true e' w' := by
  have LA := hidden (rput h hI hn hbase en path now (cap := cap) hb hnil true)
  clear h hb
  go_enter Try.func25, Try.ntmps25
  go_wp2_with fail
  refine Calls.mono LA.out ?_
  intro e w' hL
  obtain rfl := hL.1
  have HL := hidden hL
  clear hL
  go_wp2
  go_ret2
  exact HL.out
end
end Go.Proofs.Ytmogacccffkkbaa.Nt
