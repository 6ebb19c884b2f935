/-
  The document's Deliver, Drop and Spoil.
  Conditions: the network lies in memory.
-/
import Derived.Test.YtmogacccffkkbaaNtX
namespace Go.Proofs.Ytmogacccffkkbaa.Nt
open Go.ChangeShapes Go.WideShapes Go.ChangeAt Go.RowKit
open Ba (hidden Only In Has own_ne own_stay own_len own_some own_mono cell_lt heap_lt)
set_option linter.unusedVariables false
section
variable {base : Nat} {w w' w1 : World} {r : Nat} {rv ov : Value} {rb : Nat → Nat} {vs : Nat → Nat → Value} {X : Nat → Nat → List Pq} {S : St} {i e : Nat}
/-- what the document's Deliver leaves -/
def ReO (base : Nat) (w : World) (r : Nat) (S : St) (en path j : Int) (e' : Ending) (w' : World) : Prop :=
  ∃ a cap, e' = .returned (.tuple #[.slice a (dlB S en path j).length cap, .int .i64 (trE S en path j)]) ∧ By base w' a (dlB S en path j).length (dlB S en path j) ∧ Ros base w r (takeS S en path j dlT) w' ∧ Kept (fun t => t == 105) base w w'
def RdO (base : Nat) (w : World) (r : Nat) (S' : St) (c : Int) (e' : Ending) (w' : World) : Prop := e' = .returned (.int .i64 c) ∧ Ros base w r S' w'
theorem trE_row {S : St} {en path j : Int} {T : Tr} : trE (S.row path.toNat en.toNat ⟨T, (S.R path.toNat en.toNat).L⟩) en path j = trE S en path j := by
  unfold trE
  have e1 : ok (S.row path.toNat en.toNat ⟨T, (S.R path.toNat en.toNat).L⟩) en path = ok S en path := rfl
  have e2 : (S.row path.toNat en.toNat ⟨T, (S.R path.toNat en.toNat).L⟩).R path.toNat en.toNat = ⟨T, (S.R path.toNat en.toNat).L⟩ := up2_same _ _ _ _
  rw [e1, e2]
theorem Ro.pk (h : Ro base w r rv ov rb vs X S) {en path j : Int} (hE : trE S en path j = 0) : ((X path.toNat en.toNat).getD j.toNat zpq).1 = pkAt S en path j ∧ (X path.toNat en.toNat).getD j.toNat zpq ∈ X path.toNat en.toNat := by
  obtain ⟨hp, h0, hj⟩ := trE_iff.1 hE
  obtain ⟨y1, y2, _⟩ := q_cells (h.eq path.toNat en.toNat) (h.own path.toNat en.toNat) (j := j.toNat) (by omega) rfl
  exact ⟨y1, y2⟩
/-- what is read ahead of taking a packet out, and what stands behind it -/
theorem rtake_d (h : Ro base w r rv ov rb vs X S) (hI : Inv S) (hn : S.next ≤ 1000) (hbase : base ≤ w.heap.size) {en path j : Int} (hE : trE S en path j = 0) :
    ∃ g cap gr x xq, (w.cell? ⟨r, 0, none⟩ = some (.slice (some ⟨g, 0, none⟩) S.p cap) ∧ w.cell? ⟨g, path.toNat, none⟩ = some (.slice (some ⟨gr, 0, none⟩) 2 2) ∧ w.cell? ⟨gr, en.toNat * 5 + 2, none⟩ = some (.int .i64 x) ∧ w.frozen? ⟨gr, en.toNat * 5 + 2, none⟩ = false ∧ 0 ≤ x ∧ x ≤ 1000) ∧ xq = (X path.toNat en.toNat).getD j.toNat zpq ∧
      ∀ W1, W1 = w.setCell ⟨gr, en.toNat * 5 + 2, none⟩ (.int .i64 (x + 1)) → Calls Try.prog 49 #[.pointer (some ⟨r, 0, none⟩), .int .i64 en, .int .i64 path, .int .i64 j] W1 fun e' w' => e' = .returned (.slice (some ⟨xq.2.1, 0, none⟩) xq.1.bs.length xq.2.2) ∧ Ros base w r (takeS S en path j dlT) w' ∧ By base w' (some ⟨xq.2.1, 0, none⟩) xq.1.bs.length xq.1.bs ∧ Kept (fun t => t == 105) base w w' := by
  obtain ⟨hp, h0, hj⟩ := trE_iff.1 hE
  obtain ⟨⟨p1, p2⟩, p3, p4⟩ := ok_iff.1 hp
  have hi : path.toNat < S.p := by omega
  have he : en.toNat < 2 := by omega
  obtain ⟨g, cap, gr, n, a, c, c0, c1, hgr, l1, l2, l3, hvs, hnn, d0, d1, d2, d3, d4, hf⟩ := h.at hp
  have hr := hI.rows path.toNat en.toNat
  have := hr.s; have := hr.d; have := hr.l; have := hr.f; have := hr.sum; have := hr.few; have := hr.len
  refine ⟨g, cap, gr, _, _, ⟨c0, c1, d2, hf _, by omega, by omega⟩, rfl, fun W1 hW1 => ?_⟩
  obtain ⟨cs, hcs⟩ := (h.row _ hi).has
  have hA := h.setT hi he (k := 2) (by decide) (u := .int .i64 ((S.R path.toNat en.toNat).T.d + 1)) (T' := dlT (S.R path.toNat en.toNat).T) rfl
  have hK := (Kept.refl (fun t => t == 105) base w).set (p := ⟨rb path.toNat, en.toNat * 5 + 2, none⟩) hcs rfl (h.rbb _ hi) (.int .i64 ((S.R path.toNat en.toNat).T.d + 1))
  rw [← hgr, ← hW1] at hA hK
  have hby := (h.by hI (h.pk hE).2).stay hK rfl
  have er : (S.row path.toNat en.toNat ⟨dlT (S.R path.toNat en.toNat).T, (S.R path.toNat en.toNat).L⟩).R path.toNat en.toNat = ⟨dlT (S.R path.toNat en.toNat).T, (S.R path.toNat en.toNat).L⟩ := up2_same _ _ _ _
  have OU := rOut hA hI.p (en := en) (path := path) (j := j) (by rw [er]; show (S.R path.toNat en.toNat).L.length ≤ 1000; omega) (Nat.le_trans hbase hK.size) (trE_row.trans hE) rfl
  refine OU.mono ?_
  rintro e' w2 ⟨rfl, ⟨v', hR⟩, hK2⟩
  refine ⟨rfl, ⟨⟨rv, ov, rb, up2 vs path.toNat en.toNat v', up2 X path.toNat en.toNat ((X path.toNat en.toNat).eraseIdx j.toNat), ?_⟩, ?_⟩, hby.stay hK2 rfl, hK.trans hK2⟩
  · unfold takeS
    rw [if_pos hE]
    rw [er] at hR
    unfold St.row at hR ⊢
    simp only [up2_up2] at hR
    exact hR
  · exact (hK.trans hK2).mono (fun t ht => by unfold TYr at ht; revert ht; cases t == 105 <;> simp)
/-- what is read ahead of taking a packet out, and what stands behind it -/
theorem rtake_l (h : Ro base w r rv ov rb vs X S) (hI : Inv S) (hn : S.next ≤ 1000) (hbase : base ≤ w.heap.size) {en path j : Int} (hE : trE S en path j = 0) :
    ∃ g cap gr x xq, (w.cell? ⟨r, 0, none⟩ = some (.slice (some ⟨g, 0, none⟩) S.p cap) ∧ w.cell? ⟨g, path.toNat, none⟩ = some (.slice (some ⟨gr, 0, none⟩) 2 2) ∧ w.cell? ⟨gr, en.toNat * 5 + 3, none⟩ = some (.int .i64 x) ∧ w.frozen? ⟨gr, en.toNat * 5 + 3, none⟩ = false ∧ 0 ≤ x ∧ x ≤ 1000) ∧ xq = (X path.toNat en.toNat).getD j.toNat zpq ∧
      ∀ W1, W1 = w.setCell ⟨gr, en.toNat * 5 + 3, none⟩ (.int .i64 (x + 1)) → Calls Try.prog 49 #[.pointer (some ⟨r, 0, none⟩), .int .i64 en, .int .i64 path, .int .i64 j] W1 fun e' w' => e' = .returned (.slice (some ⟨xq.2.1, 0, none⟩) xq.1.bs.length xq.2.2) ∧ Ros base w r (takeS S en path j drT) w' ∧ By base w' (some ⟨xq.2.1, 0, none⟩) xq.1.bs.length xq.1.bs ∧ Kept (fun t => t == 105) base w w' := by
  obtain ⟨hp, h0, hj⟩ := trE_iff.1 hE
  obtain ⟨⟨p1, p2⟩, p3, p4⟩ := ok_iff.1 hp
  have hi : path.toNat < S.p := by omega
  have he : en.toNat < 2 := by omega
  obtain ⟨g, cap, gr, n, a, c, c0, c1, hgr, l1, l2, l3, hvs, hnn, d0, d1, d2, d3, d4, hf⟩ := h.at hp
  have hr := hI.rows path.toNat en.toNat
  have := hr.s; have := hr.d; have := hr.l; have := hr.f; have := hr.sum; have := hr.few; have := hr.len
  refine ⟨g, cap, gr, _, _, ⟨c0, c1, d3, hf _, by omega, by omega⟩, rfl, fun W1 hW1 => ?_⟩
  obtain ⟨cs, hcs⟩ := (h.row _ hi).has
  have hA := h.setT hi he (k := 3) (by decide) (u := .int .i64 ((S.R path.toNat en.toNat).T.l + 1)) (T' := drT (S.R path.toNat en.toNat).T) rfl
  have hK := (Kept.refl (fun t => t == 105) base w).set (p := ⟨rb path.toNat, en.toNat * 5 + 3, none⟩) hcs rfl (h.rbb _ hi) (.int .i64 ((S.R path.toNat en.toNat).T.l + 1))
  rw [← hgr, ← hW1] at hA hK
  have hby := (h.by hI (h.pk hE).2).stay hK rfl
  have er : (S.row path.toNat en.toNat ⟨drT (S.R path.toNat en.toNat).T, (S.R path.toNat en.toNat).L⟩).R path.toNat en.toNat = ⟨drT (S.R path.toNat en.toNat).T, (S.R path.toNat en.toNat).L⟩ := up2_same _ _ _ _
  have OU := rOut hA hI.p (en := en) (path := path) (j := j) (by rw [er]; show (S.R path.toNat en.toNat).L.length ≤ 1000; omega) (Nat.le_trans hbase hK.size) (trE_row.trans hE) rfl
  refine OU.mono ?_
  rintro e' w2 ⟨rfl, ⟨v', hR⟩, hK2⟩
  refine ⟨rfl, ⟨⟨rv, ov, rb, up2 vs path.toNat en.toNat v', up2 X path.toNat en.toNat ((X path.toNat en.toNat).eraseIdx j.toNat), ?_⟩, ?_⟩, hby.stay hK2 rfl, hK.trans hK2⟩
  · unfold takeS
    rw [if_pos hE]
    rw [er] at hR
    unfold St.row at hR ⊢
    simp only [up2_up2] at hR
    exact hR
  · exact (hK.trans hK2).mono (fun t ht => by unfold TYr at ht; revert ht; cases t == 105 <;> simp)
set_option maxHeartbeats 2000000 in
theorem rDeliver (h : Ro base w r rv ov rb vs X S) (hI : Inv S) (hn : S.next ≤ 1000) (hbase : base ≤ w.heap.size) (en path j : Int) :
    Calls Try.prog 26 #[.pointer (some ⟨r, 0, none⟩), .int .i64 en, .int .i64 path, .int .i64 j] w fun e' w' => ReO base w r S en path j e' w' := by
  have AT := hidden (rAt h hI hn en path j)
  by_cases hE : trE S en path j = 0
  · obtain ⟨hp, h0, hj⟩ := trE_iff.1 hE
    obtain ⟨⟨p1, p2⟩, p3, p4⟩ := ok_iff.1 hp
    obtain ⟨g, cap, gr, x, xq, ⟨c0, c1, dx, fx, b1, b2⟩, hxq, OU⟩ := rtake_d h hI hn hbase hE
    have OU' := hidden (OU _ rfl)
    rw [hE] at AT
    have hpk := (h.pk hE).1
    rw [← hxq] at hpk
    have FIN : Hid (∀ w2, Ros base w r (takeS S en path j dlT) w2 → By base w2 (some ⟨xq.2.1, 0, none⟩) xq.1.bs.length xq.1.bs → Kept (fun t => t == 105) base w w2 → ReO base w r S en path j (.returned (.tuple #[.slice (some ⟨xq.2.1, 0, none⟩) xq.1.bs.length xq.2.2, .int .i64 0])) w2) := fun w2 hR hB hK9 => by
      have e1 : dlB S en path j = xq.1.bs := by unfold dlB; rw [if_pos hE, hpk]
      exact ⟨_, xq.2.2, by rw [e1, hE], by rw [e1]; exact hB, hR, hK9⟩
    have hp8 := hI.p
    clear h hp hE hj OU hxq hpk hI
    go_enter Try.func26, Try.ntmps26
    go_wp2_with fail
    refine Calls.mono AT.out ?_
    rintro e w' ⟨rfl, rfl⟩
    go_wp2_with fail
    refine Calls.mono OU'.out ?_
    rintro e w2 ⟨rfl, hR, hB, hK9⟩
    have HF := hidden (FIN.out w2 hR hB hK9)
    clear hR hB hK9
    go_wp2
    go_ret2
    exact HF.out
  · have FIN : Hid (ReO base w r S en path j (.returned (.tuple #[.slice none 0 0, .int .i64 (trE S en path j)])) w) := by
      have e1 : dlB S en path j = [] := by unfold dlB; rw [if_neg hE]
      refine ⟨none, 0, by rw [e1]; rfl, by rw [e1]; exact ⟨rfl, by intro z hz; simp at hz, .inl rfl⟩, ⟨⟨rv, ov, rb, vs, X, ?_⟩, Kept.refl _ _ _⟩, Kept.refl _ _ _⟩
      unfold takeS
      rw [if_neg hE]
      exact h
    generalize trE S en path j = c at *
    clear h
    go_enter Try.func26, Try.ntmps26
    go_wp2_with fail
    refine Calls.mono AT.out ?_
    rintro e w' ⟨rfl, rfl⟩
    go_wp2
    go_ret2
    exact FIN.out
set_option maxHeartbeats 2000000 in
theorem rDrop (h : Ro base w r rv ov rb vs X S) (hI : Inv S) (hn : S.next ≤ 1000) (hbase : base ≤ w.heap.size) (en path j : Int) :
    Calls Try.prog 27 #[.pointer (some ⟨r, 0, none⟩), .int .i64 en, .int .i64 path, .int .i64 j] w fun e' w' => RdO base w r (takeS S en path j drT) (trE S en path j) e' w' := by
  have AT := hidden (rAt h hI hn en path j)
  by_cases hE : trE S en path j = 0
  · obtain ⟨hp, h0, hj⟩ := trE_iff.1 hE
    obtain ⟨⟨p1, p2⟩, p3, p4⟩ := ok_iff.1 hp
    obtain ⟨g, cap, gr, x, xq, ⟨c0, c1, dx, fx, b1, b2⟩, hxq, OU⟩ := rtake_l h hI hn hbase hE
    have OU' := hidden (OU _ rfl)
    rw [hE] at AT ⊢
    have hp8 := hI.p
    clear h hp hE hj OU hxq hI
    go_enter Try.func27, Try.ntmps27
    go_wp2_with fail
    refine Calls.mono AT.out ?_
    rintro e w' ⟨rfl, rfl⟩
    go_wp2_with fail
    refine Calls.mono OU'.out ?_
    rintro e w2 ⟨rfl, hR, hB, hK9⟩
    have HF := hidden hR
    clear hR hB hK9
    go_wp2
    go_ret
    exact ⟨rfl, HF.out⟩
  · have FIN : Hid (RdO base w r (takeS S en path j drT) (trE S en path j) (.returned (.int .i64 (trE S en path j))) w) := by
      refine ⟨rfl, ⟨rv, ov, rb, vs, X, ?_⟩, Kept.refl _ _ _⟩
      unfold takeS
      rw [if_neg hE]
      exact h
    generalize trE S en path j = c at *
    clear h
    go_enter Try.func27, Try.ntmps27
    go_wp2_with fail
    refine Calls.mono AT.out ?_
    rintro e w' ⟨rfl, rfl⟩
    go_wp2
    go_ret
    exact FIN.out
theorem set_same {α : Type} {l : List α} {j : Nat} {x : α} (h : l[j]? = some x) : l.set j x = l := by
  apply List.ext_getElem?
  intro k
  rw [List.getElem?_set]
  by_cases hk : j = k
  · subst hk
    have hl := (List.getElem?_eq_some_iff.1 h).1
    rw [if_pos rfl, if_pos hl, h]
  · rw [if_neg hk]
/-- a packet's bytes are turned -/
theorem Ro.spoilt (h : Ro base w r rv ov rb vs X S) {j : Nat} {x : Pq} (hx : (X i e)[j]? = some x) {k : Nat} (z : Int) {bs : List Int} (hbs : bs = x.1.bs.set k z) : Ro base (w.setCell ⟨x.2.1, k, none⟩ (.int .u8 z)) r rv ov rb vs (up2 X i e ((X i e).set j ({ x.1 with bs := bs }, x.2))) (S.row i e ⟨(S.R i e).T, (S.R i e).L.set j { x.1 with bs := bs }⟩) ∧ Kept TYr base w (w.setCell ⟨x.2.1, k, none⟩ (.int .u8 z)) := by
  have hxm := List.mem_of_getElem? hx
  have hb := h.byt i e x hxm
  have hjl := (List.getElem?_eq_some_iff.1 hx).1
  have hlen : bs.length = x.1.bs.length := by rw [hbs, List.length_set]
  obtain ⟨cur, hcur⟩ : ∃ cur, Has w x.2.1 cur 5 := by
    rcases hb.2 with ⟨hh, _⟩ | ⟨g', cap', cur, hh, _, hg, _⟩
    · cases hh
    · cases hh; exact ⟨cur, hg⟩
  have hbb : base ≤ x.2.1 := (hb.lt _ rfl).1
  have hs := (World.ownsRow.stored hb k (.int .u8 z)).1
  rw [← List.map_set, ← hbs] at hs
  have hmem : ∀ y ∈ (X i e).set j ({ x.1 with bs := bs }, x.2), y = ({ x.1 with bs := bs }, x.2) ∨ (y ∈ X i e ∧ y.2.1 ≠ x.2.1) := by
    intro y hy
    obtain ⟨m, hm⟩ := List.mem_iff_getElem?.1 hy
    rw [List.getElem?_set] at hm
    split at hm
    · first
      | exact .inl (Option.some.inj hm).symm
      | (split at hm; exact .inl (Option.some.inj hm).symm; cases hm)
    · next hne =>
      refine .inr ⟨List.mem_of_getElem? hm, fun ee => hne ?_⟩
      have hn := h.bn i e
      have h1 : ((X i e).map (·.2.1))[j]? = some x.2.1 := by rw [List.getElem?_map, hx]; rfl
      have h2 : ((X i e).map (·.2.1))[m]? = some x.2.1 := by rw [List.getElem?_map, hm, ← ee]; rfl
      exact (List.getElem?_inj (by rw [List.length_map]; exact hjl) hn).1 (h1.trans h2.symm)
  have hself : Bq base (w.setCell ⟨x.2.1, k, none⟩ (.int .u8 z)) ({ x.1 with bs := bs }, x.2) := by
    unfold Bq
    rw [hlen]
    exact hs
  have hoth : ∀ y, y.2.1 ≠ x.2.1 → Bq base w y → Bq base (w.setCell ⟨x.2.1, k, none⟩ (.int .u8 z)) y := fun y hy hq => own_set_other hq (fun k2 hk2 e2 => by cases hk2; exact hy e2) _
  have hblk : ((X i e).set j ({ x.1 with bs := bs }, x.2)).map (·.2.1) = (X i e).map (·.2.1) := by
    rw [List.map_set]
    have h1 : ((X i e).map (·.2.1))[j]? = some x.2.1 := by rw [List.getElem?_map, hx]; rfl
    exact set_same h1
  refine ⟨⟨h.br, h.net.set_other (p := ⟨x.2.1, k, none⟩) (h.net.ne hcur (by decide)) _, own_set_type h.rows (p := ⟨x.2.1, k, none⟩) hcur (by decide) _, own_set_type h.offs (p := ⟨x.2.1, k, none⟩) hcur (by decide) _, fun i' hi' => ?_, h.rbb, h.rinj, fun i' e' => ?_, fun i' e' => ?_, h.ap, fun i' e' y hy => ?_, fun i' e' => ?_, fun i1 e1 i2 e2 y y' hy hy' hyy => ?_⟩, (Kept.refl _ _ _).set (p := ⟨x.2.1, k, none⟩) hcur rfl hbb _⟩
  · have hm := (h.row i' hi').move (w' := w.setCell ⟨x.2.1, k, none⟩ (.int .u8 z)) (fun cs hc => hc.set_other (p := ⟨x.2.1, k, none⟩) (hc.ne hcur (by decide)) _)
    refine cast ?_ hm
    congr 1
    funext e'
    show _ = (up2 S.R i e _ i' e').T
    unfold up2
    split
    · next hq => rw [hq.1, hq.2]
    · rfl
  · show (up2 X i e _ i' e').map (·.1) = (up2 S.R i e _ i' e').L
    by_cases hq : i' = i ∧ e' = e
    · rw [hq.1, hq.2, up2_same, up2_same, List.map_set, h.eq i e]
    · rw [up2_ne _ _ hq, up2_ne _ _ hq]
      exact h.eq i' e'
  · have hq := own_set_type (h.own i' e') (p := ⟨x.2.1, k, none⟩) hcur (by decide) (.int .u8 z)
    by_cases hq2 : i' = i ∧ e' = e
    · obtain ⟨rfl, rfl⟩ := hq2
      rw [up2_same, List.length_set]
      have e1 : qcs ((X i' e').set j ({ x.1 with bs := bs }, x.2)) = qcs (X i' e') := by
        have := flat_set qc_len (X i' e') hx (c := 4) (u := .slice (some ⟨x.2.1, 0, none⟩) x.1.bs.length x.2.2) (y := ({ x.1 with bs := bs }, x.2)) (by decide) (by simp [qc, hlen])
        unfold qcs
        rw [← this]
        refine set_same ?_
        rw [flat_at qc_len _ hx (c := 4) (by decide)]
        rfl
      rw [e1]
      exact hq
    · rw [up2_ne _ _ hq2]
      exact hq
  · unfold up2 at hy
    split at hy
    · rcases hmem y hy with rfl | ⟨hy1, hy2⟩
      · exact hself
      · exact hoth y hy2 (h.byt i e y hy1)
    · next hq =>
      refine hoth y (fun ee => hq ?_) (h.byt i' e' y hy)
      exact h.bp _ _ _ _ y x hy hxm ee
  · unfold up2
    split
    · rw [hblk]; exact h.bn i e
    · exact h.bn i' e'
  · have key : ∀ {y : Pq} {i1 e1 : Nat}, y ∈ up2 X i e ((X i e).set j ({ x.1 with bs := bs }, x.2)) i1 e1 → ∃ y0 ∈ X i1 e1, y0.2.1 = y.2.1 := fun {y i1 e1} hy => by
      unfold up2 at hy
      split at hy
      · next hq =>
        rw [hq.1, hq.2]
        rcases hmem y hy with rfl | ⟨hy1, _⟩
        · exact ⟨x, hxm, rfl⟩
        · exact ⟨y, hy1, rfl⟩
      · exact ⟨y, hy, rfl⟩
    obtain ⟨y0, hy0, ey⟩ := key hy
    obtain ⟨y1, hy1, ey'⟩ := key hy'
    exact h.bp _ _ _ _ y0 y1 hy0 hy1 (by rw [ey, ey']; exact hyy)
set_option maxHeartbeats 4000000 in
set_option maxRecDepth 20000 in
theorem rSpoil (h : Ro base w r rv ov rb vs X S) (hI : Inv S) (hn : S.next ≤ 1000) (en path j at_ : Int) {bits : Int} (hbi : 0 ≤ bits ∧ bits < 256) :
    Calls Try.prog 29 #[.pointer (some ⟨r, 0, none⟩), .int .i64 en, .int .i64 path, .int .i64 j, .int .i64 at_, .int .u8 bits] w fun e' w' => RdO base w r (spS S en path j at_ bits) (spE S en path j at_) e' w' := by
  have AT := hidden (rAt h hI hn en path j)
  by_cases hE : trE S en path j = 0
  · obtain ⟨hp, h0, hj⟩ := trE_iff.1 hE
    obtain ⟨⟨p1, p2⟩, p3, p4⟩ := ok_iff.1 hp
    obtain ⟨g, cap, gr, n, a, c, c0, c1, hgr, l1, l2, l3, hvs, hnn, d0, -⟩ := h.at hp
    obtain ⟨xq, hxq⟩ : ∃ xq : Pq, xq = (X path.toNat en.toNat).getD j.toNat zpq := ⟨_, rfl⟩
    have hjl : j.toNat < (S.R path.toNat en.toNat).L.length := by omega
    obtain ⟨y1, y2, y3, gp, cap', ev, hg, hcap, hmax, k0, k1, k2, k3, k4⟩ := q_cells (h.eq path.toNat en.toNat) (h.own path.toNat en.toNat) hjl hxq
    rw [hvs, ← hnn] at ev
    cases ev
    have hl := (hI.rows path.toNat en.toNat).len
    have hpk := (h.pk hE).1
    rw [← hxq] at hpk
    have hby := h.by hI y2
    rw [hE] at AT
    have hp8 := hI.p
    have hpo := (hI.rows path.toNat en.toNat).ok _ (pkAt_mem hE)
    rw [← hpk] at hpo
    have hjn : j < (n : Int) := by omega
    have hnl : (n : Int) ≤ 1000 := by omega
    by_cases hat : 0 ≤ at_ ∧ at_ < (xq.1.bs.length : Int)
    · have e1 : spE S en path j at_ = 0 := by unfold spE; rw [if_pos hE, ← hpk, if_pos hat]
      have cb : w.cell? ⟨xq.2.1, at_.toNat, none⟩ = some (.int .u8 (xq.1.bs.getD at_.toNat 0)) := by
        rcases hby.2.2 with hh | ⟨b', off, e, _, _, hj2⟩
        · omega
        · cases e
          have := hj2 at_.toNat (by omega)
          rw [Nat.zero_add] at this
          exact this
      have fb : w.frozen? ⟨xq.2.1, at_.toNat, none⟩ = false := World.ownsRow.frozenAt (h.byt _ _ _ y2) _
      obtain ⟨hR, hK⟩ := h.spoilt y3 (k := at_.toNat) (Go.bits .xor .u8 (xq.1.bs.getD at_.toNat 0) bits) (bs := flip xq.1.bs at_.toNat bits) rfl
      have FIN : Hid (RdO base w r (spS S en path j at_ bits) (spE S en path j at_) (.returned (.int .i64 0)) (w.setCell ⟨xq.2.1, at_.toNat, none⟩ (.int .u8 (Go.bits .xor .u8 (xq.1.bs.getD at_.toNat 0) bits)))) := by
        refine ⟨by rw [e1], ⟨rv, ov, rb, vs, up2 X path.toNat en.toNat ((X path.toNat en.toNat).set j.toNat ({ xq.1 with bs := flip xq.1.bs at_.toNat bits }, xq.2)), ?_⟩, hK⟩
        unfold spS
        rw [if_pos e1, ← hpk]
        exact hR
      generalize xq.1.bs.getD at_.toNat 0 = y at cb FIN
      have hbl : (xq.1.bs.length : Int) ≤ 65536 := by have := hpo.2; omega
      generalize xq.1.bs.length = bl at *
      clear h hp hE hj hI hxq hgr hvs hnn hpk hby hR hK e1 y1 y2 y3 hpo hjl hcap hl
      go_enter Try.func29, Try.ntmps29
      go_wp2_with fail
      refine Calls.mono AT.out ?_
      rintro e w' ⟨rfl, rfl⟩
      go_wp2
      go_ret
      exact FIN.out
    · have e1 : spE S en path j at_ = 92 := by unfold spE; rw [if_pos hE, ← hpk, if_neg hat]
      have FIN : Hid (RdO base w r (spS S en path j at_ bits) (spE S en path j at_) (.returned (.int .i64 92)) w) := by
        refine ⟨by rw [e1], ⟨rv, ov, rb, vs, X, ?_⟩, Kept.refl _ _ _⟩
        unfold spS
        rw [e1, if_neg (by decide)]
        exact h
      have hbl : (xq.1.bs.length : Int) ≤ 65536 := by have := hpo.2; omega
      generalize xq.1.bs.length = bl at *
      clear h hp hE hj hI hxq hgr hvs hnn hpk hby e1 y1 y2 y3 hpo hjl hcap hl
      by_cases hneg : at_ < 0
      · go_enter Try.func29, Try.ntmps29
        go_wp2_with fail
        refine Calls.mono AT.out ?_
        rintro e w' ⟨rfl, rfl⟩
        go_wp2
        go_ret
        exact FIN.out
      · have hbig : (bl : Int) ≤ at_ := by omega
        go_enter Try.func29, Try.ntmps29
        go_wp2_with fail
        refine Calls.mono AT.out ?_
        rintro e w' ⟨rfl, rfl⟩
        go_wp2
        go_ret
        exact FIN.out
  · have e1 : spE S en path j at_ = trE S en path j := by unfold spE; rw [if_neg hE]
    have e2 : spS S en path j at_ bits = S := by unfold spS; rw [e1, if_neg hE]
    rw [e1, e2]
    have FIN : Hid (RdO base w r S (trE S en path j) (.returned (.int .i64 (trE S en path j))) w) := ⟨rfl, ⟨rv, ov, rb, vs, X, h⟩, Kept.refl _ _ _⟩
    clear e1 e2
    generalize trE S en path j = c at *
    clear h
    go_enter Try.func29, Try.ntmps29
    go_wp2_with fail
    refine Calls.mono AT.out ?_
    rintro e w' ⟨rfl, rfl⟩
    go_wp2
    go_ret
    exact FIN.out
end
end Go.Proofs.Ytmogacccffkkbaa.Nt
