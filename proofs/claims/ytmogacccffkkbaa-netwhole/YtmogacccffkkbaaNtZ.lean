/-
  The document's Twice.
  Conditions: the network lies in memory.
-/
import Derived.Test.YtmogacccffkkbaaNtY
namespace Go.Proofs.Ytmogacccffkkbaa.Nt
open Go.ChangeShapes Go.WideShapes Go.ChangeAt Go.RowKit
open Ba (hidden Only In Has own_ne own_stay own_len own_some own_mono cell_lt heap_lt)
set_option linter.unusedVariables false
section
variable {base : Nat} {w w' w1 : World} {r : Nat} {rv ov : Value} {rb : Nat → Nat} {vs : Nat → Nat → Value} {X : Nat → Nat → List Pq} {S : St} {i e : Nat}
/-- what the document's Twice leaves -/
def RtO (base : Nat) (w : World) (r : Nat) (S : St) (en path j : Int) (e' : Ending) (w' : World) : Prop :=
  e' = .returned (.tuple #[.int .i64 (twI S en path j), .int .i64 (trE S en path j)]) ∧ Ros base w r (twS S en path j) w'
set_option maxHeartbeats 4000000 in
set_option maxRecDepth 20000 in
theorem rTwice_ok (h : Ro base w r rv ov rb vs X S) (hI : Inv S) (hn : S.next ≤ 1000) (hbase : base ≤ w.heap.size) {en path j : Int} (hE : trE S en path j = 0) :
    Calls Try.prog 28 #[.pointer (some ⟨r, 0, none⟩), .int .i64 en, .int .i64 path, .int .i64 j] w fun e' w' => RtO base w r S en path j e' w' := by
  have AT := hidden (rAt h hI hn en path j)
  rw [hE] at AT
  obtain ⟨hp, h0, hj⟩ := trE_iff.1 hE
  obtain ⟨⟨p1, p2⟩, p3, p4⟩ := ok_iff.1 hp
  have hLE : laE S en path 0 ([] : List Int).length = 0 := by unfold laE; rw [hp]; rfl
  obtain ⟨g, rcap, gr, va, n, cap, go, oc, xx, l, ⟨c0, c1, d0, dx, d3, o1, o2, cn⟩, ⟨fr, hf, n1, n2, n3, n4, n5⟩, ⟨b1, b2, b3, b4, b5, hgr, hvs⟩, FN⟩ := rput_pre_s h hI hn (bs := []) rfl hLE
  obtain ⟨W1, hW1⟩ : ∃ W1, W1 = (w.setCell ⟨r, 2, none⟩ (.int .i64 (S.next + 1))).setCell ⟨gr, en.toNat * 5 + 1, none⟩ (.int .i64 (xx + 1)) := ⟨_, rfl⟩
  obtain ⟨S1, hS1, hR1, hK1, -, -⟩ := FN W1 hW1
  have hK1' : Kept TYr base w W1 := hK1.mono (fun t ht => by unfold TYr at ht; revert ht; cases t == 40 <;> cases t == 105 <;> simp)
  have hsz : W1.heap.size = w.heap.size := by rw [hW1]; simp [World.setCell]
  obtain ⟨xq, hxq⟩ : ∃ xq : Pq, xq = (X path.toNat en.toNat).getD j.toNat zpq := ⟨_, rfl⟩
  have hjl : j.toNat < (S.R path.toNat en.toNat).L.length := by omega
  obtain ⟨y1, y2, y3, gp, cap', ev, hg, hcap, hmax, k0, k1, k2, k3, k4⟩ := q_cells (h.eq path.toNat en.toNat) (h.own path.toNat en.toNat) hjl hxq
  have hnn : n = (S.R path.toNat en.toNat).L.length := by
    rw [hvs] at ev
    cases ev
    rfl
  rw [hvs, ← hnn] at ev
  cases ev
  have hgne : gp ≠ r ∧ gp ≠ gr := by
    have hown := h.own path.toNat en.toNat
    rw [hvs] at hown
    obtain ⟨cs, hcs⟩ := (h.row path.toNat (by omega)).has
    rw [← hgr] at hcs
    exact ⟨fun ee => own_ne hown h.net (by decide) gp rfl ee.symm, fun ee => own_ne hown hcs (by decide) gp rfl ee.symm⟩
  obtain ⟨hg1, hg2⟩ := hgne
  have hpk := (h.pk hE).1
  rw [← hxq] at hpk
  have hpo := (hI.rows path.toNat en.toNat).ok _ (pkAt_mem hE)
  rw [← hpk] at hpo
  have hl := (hI.rows path.toNat en.toNat).len
  have hoff : S.off path.toNat = false := by
    cases ho : S.off path.toNat with
    | false => rfl
    | true => rw [hI.off _ _ (by omega) ho] at hjl; simp at hjl
  -- the bytes
  have hbyW : By base W1 (some ⟨xq.2.1, 0, none⟩) xq.1.bs.length xq.1.bs := (h.by hI y2).stay hK1 rfl
  obtain ⟨W2, hW2⟩ : ∃ W2, W2 = (W1.alloc (.cells #[.int .i64 S.next, .int .i64 xq.1.sent, .int .i64 xq.1.len, .bool xq.1.forged, .slice (some ⟨xq.2.1, 0, none⟩) xq.1.bs.length xq.2.2] 109)).alloc (.cells #[] 5) := ⟨_, rfl⟩
  have hB2 : Below W1.heap.size W1 W2 := by rw [hW2]; exact ((Below.refl _ _).alloc (Nat.le_refl _) _).alloc (by simp) _
  have hbox : Has W2 w.heap.size #[.int .i64 S.next, .int .i64 xq.1.sent, .int .i64 xq.1.len, .bool xq.1.forged, .slice (some ⟨xq.2.1, 0, none⟩) xq.1.bs.length xq.2.2] 109 := by
    rw [hW2, ← hsz]
    exact (Has.new W1 _ _).later ((Below.refl _ _).alloc (Nat.le_refl _) _)
  have hEm : W2.ownsRow base 5 1 (.slice (some ⟨w.heap.size + 1, 0, none⟩) 0 0) 0 [] := by
    have := World.ownsRow_made (base := base) (size := 1) (e := 5) (W1.alloc (.cells #[.int .i64 S.next, .int .i64 xq.1.sent, .int .i64 xq.1.len, .bool xq.1.forged, .slice (some ⟨xq.2.1, 0, none⟩) xq.1.bs.length xq.2.2] 109)) #[] 0 (by have := hK1.size; simp; omega) (by unfold maxLen; omega) rfl
    rw [hW2]
    simpa [hsz] using this
  obtain ⟨gB, cB, w3, hrun, q1, q2, q3⟩ := app_bytes (cap := xq.2.2) hEm (by have := hB2.size; have := hK1.size; omega) (hbyW.later hB2) (fun hh => by cases hh) hpo.2 32
  have hO3 : Only [w.heap.size + 1] W2 w3 := Only.grown q2 (by intro k hk; simp at hk; simp [hk])
  have hbox3 := hbox.stay hO3 (by simp)
  have hB3 : Below W1.heap.size W1 w3 := hB2.trans (hO3.below hB2.size (by simp; omega))
  obtain ⟨bl, hbl⟩ : ∃ bl, bl = xq.1.bs.length := ⟨_, rfl⟩
  obtain ⟨W4, hW4⟩ : ∃ W4, W4 = w3.setCell ⟨w.heap.size, 4, none⟩ (.slice (some ⟨gB, 0, none⟩) bl cB) := ⟨_, rfl⟩
  have hbox4 : Has W4 w.heap.size #[.int .i64 S.next, .int .i64 xq.1.sent, .int .i64 xq.1.len, .bool xq.1.forged, .slice (some ⟨gB, 0, none⟩) bl cB] 109 := by rw [hW4]; exact hbox3.set 4 _
  have hB4 : Below W1.heap.size W1 W4 := by rw [hW4]; exact hB3.setCell (p := ⟨w.heap.size, 4, none⟩) (by show W1.heap.size ≤ w.heap.size; omega) _
  have hBq4 : Bq base W4 ({ xq.1 with id := S.next }, gB, cB) := by rw [hW4]; exact own_set_type q1 (p := ⟨w.heap.size, 4, none⟩) hbox3 (by decide) _
  have hgB : W1.heap.size ≤ gB := by
    have := hB2.size
    rcases q3 with e | e
    · rw [e]; omega
    · rw [e]; exact this
  have ST : Hid (RpA base W1 r rv ov rb vs X S1 path.toNat en.toNat bl { xq.1 with id := S.next } (0 + 2) (gB, cB, 0, undef) W4.drew) :=
    ⟨fun _ => hB4.drew, fun e => absurd e (by decide), fun e => absurd e (by decide), fun _ => ⟨hBq4, hgB, hbl.symm⟩, fun e => absurd e (by decide), fun e => absurd e (by decide), fun e => absurd e (by decide)⟩
  have FIN : Hid (∀ w2, Ros base W1 r (S1.row path.toNat en.toNat ⟨(S1.R path.toNat en.toNat).T, (S1.R path.toNat en.toNat).L ++ [{ xq.1 with id := S.next }]⟩) w2 → RtO base w r S en path j (.returned (.tuple #[.int .i64 S.next, .int .i64 0])) w2) := fun w2 hR => by
    obtain ⟨hR, hK⟩ := hR
    refine ⟨by unfold twI; rw [hE, if_pos rfl], ?_, hK1'.trans hK⟩
    unfold twS
    rw [if_pos hE, ← hpk]
    unfold putS putR cnt St.row
    simp only [hoff, up2_same, up2_up2]
    rw [hS1] at hR
    unfold St.row at hR
    simp only [up2_same, up2_up2] at hR
    exact hR
  have HBS : Hid (base ≤ W1.heap.size) := Nat.le_trans hbase hK1.size
  have HRO := hidden hR1
  have HLL : Hid ((X path.toNat en.toNat).length ≤ 100000) := by rw [h.len]; unfold Hid; omega
  have HI : Hid (path.toNat < S1.p) := by rw [hS1]; show path.toNat < S.p; omega
  have HE : Hid (en.toNat < 2) := by unfold Hid; omega
  have HGE := hidden hgr
  have HV := hidden hvs
  have hgw : gr < w.heap.size := cell_lt d0
  have HGR : Hid (gr < W1.heap.size) := Nat.lt_of_lt_of_le hgw hK1.size
  have HNG : Hid (w.heap.size ≠ gr) := by unfold Hid; omega
  have HNO : Hid (w.heap.size ∉ (vs path.toNat en.toNat).ownBlock.toList) := by
    rw [hvs]
    simp [Value.ownBlock, Hid]
    omega
  have HC4 : Hid (W1.cell? ⟨gr, en.toNat * 5, none⟩ = some (.slice (some ⟨gp, 0, none⟩) n cap)) := by
    rw [hW1]
    have hq : (⟨gr, en.toNat * 5 + 1, none⟩ : Addr) ≠ ⟨gr, en.toNat * 5, none⟩ := fun hh => by injection hh with _ h2; omega
    have hq2 : (⟨r, 2, none⟩ : Addr) ≠ ⟨gr, en.toNat * 5, none⟩ := fun hh => by injection hh with h1; exact n1 h1
    unfold Hid
    rw [World.cell?_setCell_other _ _ _ _ hq, World.cell?_setCell_other _ _ _ _ hq2]
    exact d0
  have HRN := hidden hrun
  rw [hW2, hW1, ← hbl] at HRN
  rw [← hbl] at k4
  have HB4 := hidden hbox4
  have cb0 := hbox3.cell 4 rfl
  have fb0 := hbox3.frozen 4
  have HW4 := hidden hW4
  have f1 := hf (en.toNat * 5 + 1)
  have hp8 := hI.p
  have hnx := hI.next
  have hjn : j < (n : Int) := by omega
  have hrl : r < w.heap.size := h.net.lt
  clear h hp hE hj FN hR1 hK1 hK1' hgr hvs hnn hLE hxq y1 y2 y3 hpk hpo hl hoff hbyW hW2 hB2 hbox hEm hrun q1 q2 q3 hO3 hB3 hW4 hB4 hBq4 hgB hI hS1 hW1 hf hbl hcap hjl hbox4
  go_enter Try.func28, Try.ntmps28
  go_wp2_with fail
  refine Calls.mono AT.out ?_
  rintro e w' ⟨rfl, rfl⟩
  go_wp2_with (at_builtin; refine Rg.wpList_app rfl _ _ 32 rfl rfl rfl HRN.out ?_)
  rw [← HW4.out]
  refine Ord.wp_region_ex0 (X := Nat × Value) (by kernel_rfl) 83 (fun x => [(some 70, .pointer (some ⟨gr, en.toNat * 5, none⟩)), (some 71, .pointer (some ⟨gr, en.toNat * 5, none⟩)), (some 72, .pointer (some ⟨gr, en.toNat * 5, none⟩)), (some 73, .pointer (some ⟨gr, en.toNat * 5, none⟩)), (some 74, .slice (some ⟨gp, 0, none⟩) n cap), (some 75, .agg #[.int .i64 S.next, .int .i64 xq.1.sent, .int .i64 xq.1.len, .bool xq.1.forged, .slice (some ⟨gB, 0, none⟩) bl cB]), (some 76, .slice (some ⟨x.1, 0, none⟩) 1 1), (some 77, x.2), (some 78, .pointer (some ⟨gr, en.toNat * 5, none⟩)), (some 79, .pointer (some ⟨gr, en.toNat * 5, none⟩)), (none, undef)]) [some 70, some 71, some 72, some 73, some 74, some 75, some 76, some 77, some 78, some 79, none] rfl (fun listed hsz hr => Ord.all_listedC (rank := [0, 1, 2, 3, 4, 5, 6, 7, 8, 9, 10]) (by kernel_rfl) hsz hr) (by rfl) (fun _ => rfl) (by kernel_rfl) (Rg.StM [6, 7, 10] (fun k x w' => RpA base W1 r rv ov rb vs X S1 path.toNat en.toNat bl { xq.1 with id := S.next } (k + 2) (gB, cB, x.1, x.2) w' ∧ Has w' w.heap.size #[.int .i64 S.next, .int .i64 xq.1.sent, .int .i64 xq.1.len, .bool xq.1.forged, .slice (some ⟨gB, 0, none⟩) bl cB] 109)) (fun _ _ _ _ hL h => h.ext (n := 11) (by decide) hL) ?_ ?_ (0, undef) ?_
  case refine_1 =>
    intro x Lq iq oq ac w' ho hi hcl hdep hF hW
    have f1 : ac.tmps.size = 83 := hF.1
    match iq, ho, hi, hdep with
    | 0, ho, hi, hdep =>
      cases ho
      have da0 : ac.eval (.tmp 11) = .pointer (some ⟨gr, en.toNat * 5, none⟩) := hF.old 11 rfl
      exact Ord.ex_value x rfl rfl (Rg.mv da0 rfl) rfl (hW.keep (by decide))
    | 1, ho, hi, hdep =>
      cases ho
      have da0 : ac.eval (.tmp 11) = .pointer (some ⟨gr, en.toNat * 5, none⟩) := hF.old 11 rfl
      exact Ord.ex_value x rfl rfl (Rg.mv da0 rfl) rfl (hW.keep (by decide))
    | 2, ho, hi, hdep =>
      cases ho
      have da0 : ac.eval (.tmp 71) = .pointer (some ⟨gr, en.toNat * 5, none⟩) := hF.2.2.2 1 71 _ rfl (hdep ⟨1, .data⟩ (by simp) rfl)
      exact Ord.ex_value x rfl rfl (Rg.nilc da0 rfl) rfl (hW.keep (by decide))
    | 3, ho, hi, hdep =>
      cases ho
      have da0 : ac.eval (.tmp 72) = .pointer (some ⟨gr, en.toNat * 5, none⟩) := hF.2.2.2 2 72 _ rfl (hdep ⟨2, .data⟩ (by simp) rfl)
      exact Ord.ex_value x rfl rfl (Rg.fa da0 rfl (by simp [go_sem])) rfl (hW.keep (by decide))
    | 4, ho, hi, hdep =>
      cases ho
      have da0 : ac.eval (.tmp 73) = .pointer (some ⟨gr, en.toNat * 5, none⟩) := hF.2.2.2 3 73 _ rfl (hdep ⟨3, .data⟩ (by simp) rfl)
      obtain ⟨kq, hlo, hhi, hA⟩ := hW.range 0 1 (.inl rfl) (.inr ⟨7, rfl, (Rg.no_of (fun h => hcl 7 _ rfl (h) ⟨4, .data⟩ (by simp) rfl) hi)⟩)
      exact Ord.ex_value x rfl rfl (Rg.load da0 rfl (by have hc := ((hA.1.bel (by omega)).cell (p := ⟨gr, en.toNat * 5, none⟩) HGR.out).trans HC4.out; simp [go_sem, hc])) rfl (hW.keep (by decide))
    | 5, ho, hi, hdep =>
      cases ho
      have da0 : ac.eval (.tmp 12) = .pointer (some ⟨w.heap.size, 0, none⟩) := hF.old 12 rfl
      obtain ⟨kq, hlo, hhi, hA⟩ := hW.range 0 0 (.inl rfl) (.inr ⟨6, rfl, (Rg.no_of (fun h => hcl 6 _ rfl (h) ⟨5, .data⟩ (by simp) rfl) hi)⟩)
      exact Ord.ex_value x rfl rfl (Rg.load da0 rfl (by simp [go_sem, hA.2.cell 0 rfl, hA.2.cell 1 rfl, hA.2.cell 2 rfl, hA.2.cell 3 rfl, hA.2.cell 4 rfl])) rfl (hW.keep (by decide))
    | 6, ho, hi, hdep =>
      cases ho
      have da0 : ac.eval (.tmp 75) = .agg #[.int .i64 S.next, .int .i64 xq.1.sent, .int .i64 xq.1.len, .bool xq.1.forged, .slice (some ⟨gB, 0, none⟩) bl cB] := hF.2.2.2 5 75 _ rfl (hdep ⟨5, .data⟩ (by simp) rfl)
      have hA := hW.at (k := 0) rfl hi (.inl rfl)
      obtain ⟨g2, w2, hr, hA2, hBn⟩ := hA.1.three
      exact Ord.ex_letter x (g2, x.2) rfl rfl (Rg.bsl rfl (by simp [da0]) hr) rfl (fun j hj => match j, hj with | 0, _ => rfl | 1, _ => rfl | 2, _ => rfl | 3, _ => rfl | 4, _ => rfl | 5, _ => rfl | 6, hj => absurd hj (by rw [hi]; decide) | 7, _ => rfl | 8, _ => rfl | 9, _ => rfl | 10, _ => rfl | _ + 11, _ => rfl) (hW.next (k := 0) rfl (by decide) hi (.inl rfl) ⟨hA2, hA.2.later hBn⟩)
    | 7, ho, hi, hdep =>
      cases ho
      have da0 : ac.eval (.tmp 74) = .slice (some ⟨gp, 0, none⟩) n cap := hF.2.2.2 4 74 _ rfl (hdep ⟨4, .data⟩ (by simp) rfl)
      have da1 : ac.eval (.tmp 76) = .slice (some ⟨x.1, 0, none⟩) 1 1 := hF.2.2.2 6 76 _ rfl (hdep ⟨6, .data⟩ (by simp) rfl)
      have hA := hW.at (k := 1) rfl hi (.inr ⟨6, rfl, (hdep ⟨6, .data⟩ (by simp) rfl)⟩)
      obtain ⟨v', w2, hr, hA2, hOn⟩ := hA.1.four HRO.out HLL.out HBS.out 103
      rw [HV.out] at hr
      exact Ord.ex_letter x (x.1, v') rfl rfl (Rg.app da0 da1 rfl hr) rfl (fun j hj => match j, hj with | 0, _ => rfl | 1, _ => rfl | 2, _ => rfl | 3, _ => rfl | 4, _ => rfl | 5, _ => rfl | 6, _ => rfl | 7, hj => absurd hj (by rw [hi]; decide) | 8, _ => rfl | 9, _ => rfl | 10, _ => rfl | _ + 11, _ => rfl) (hW.next (k := 1) rfl (by decide) hi (.inr ⟨6, rfl, (hdep ⟨6, .data⟩ (by simp) rfl)⟩) ⟨hA2, hA.2.stay hOn HNO.out⟩)
    | 8, ho, hi, hdep =>
      cases ho
      have da0 : ac.eval (.tmp 70) = .pointer (some ⟨gr, en.toNat * 5, none⟩) := hF.2.2.2 0 70 _ rfl (hdep ⟨0, .data⟩ (by simp) rfl)
      exact Ord.ex_value x rfl rfl (Rg.nilc da0 rfl) rfl (hW.keep (by decide))
    | 9, ho, hi, hdep =>
      cases ho
      have da0 : ac.eval (.tmp 78) = .pointer (some ⟨gr, en.toNat * 5, none⟩) := hF.2.2.2 8 78 _ rfl (hdep ⟨8, .data⟩ (by simp) rfl)
      exact Ord.ex_value x rfl rfl (Rg.fa da0 rfl (by simp [go_sem])) rfl (hW.keep (by decide))
    | 10, ho, hi, hdep =>
      cases ho
      have da0 : ac.eval (.tmp 79) = .pointer (some ⟨gr, en.toNat * 5, none⟩) := hF.2.2.2 9 79 _ rfl (hdep ⟨9, .data⟩ (by simp) rfl)
      have da1 : ac.eval (.tmp 77) = x.2 := hF.2.2.2 7 77 _ rfl (hdep ⟨7, .data⟩ (by simp) rfl)
      have hA := hW.at (k := 2) rfl hi (.inr ⟨7, rfl, (hdep ⟨7, .data⟩ (by simp) rfl)⟩)
      obtain ⟨hr, hA2⟩ := hA.1.five HRO.out HI.out HE.out HGE.out
      exact Rg.ex_skip x rfl rfl (Rg.sto da0 da1 rfl hr) rfl (hW.next (k := 2) rfl (by decide) hi (.inr ⟨7, rfl, (hdep ⟨7, .data⟩ (by simp) rfl)⟩) ⟨hA2, hA.2.set_other (p := ⟨gr, en.toNat * 5, none⟩) HNG.out _⟩)
  case refine_3 => exact Rg.StM.first ⟨ST.out, HB4.out⟩
  case refine_2 =>
    intro x w2 hW
    obtain ⟨h5, h6⟩ := hW.last
    have HF := hidden (FIN.out w2 (h5.h5 rfl))
    have cid := h6.cell 0 rfl
    clear hW h5 h6
    simp only [Ord.puts, Ord.prs]
    go_simp
    go_wp2
    go_ret2
    exact HF.out
theorem rTwice (h : Ro base w r rv ov rb vs X S) (hI : Inv S) (hn : S.next ≤ 1000) (hbase : base ≤ w.heap.size) (en path j : Int) :
    Calls Try.prog 28 #[.pointer (some ⟨r, 0, none⟩), .int .i64 en, .int .i64 path, .int .i64 j] w fun e' w' => RtO base w r S en path j e' w' := by
  by_cases hE : trE S en path j = 0
  · exact rTwice_ok h hI hn hbase hE
  · have AT := hidden (rAt h hI hn en path j)
    have FIN : Hid (RtO base w r S en path j (.returned (.tuple #[.int .i64 0, .int .i64 (trE S en path j)])) w) := by
      refine ⟨by unfold twI; rw [if_neg hE], ⟨rv, ov, rb, vs, X, ?_⟩, Kept.refl _ _ _⟩
      unfold twS
      rw [if_neg hE]
      exact h
    generalize trE S en path j = c at *
    clear h
    go_enter Try.func28, Try.ntmps28
    go_wp2_with fail
    refine Calls.mono AT.out ?_
    rintro e w' ⟨rfl, rfl⟩
    go_wp2
    go_ret2
    exact FIN.out
end
end Go.Proofs.Ytmogacccffkkbaa.Nt
